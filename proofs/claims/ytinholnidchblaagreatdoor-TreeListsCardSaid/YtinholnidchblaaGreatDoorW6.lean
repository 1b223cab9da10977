/-
  TreeLists: the walk.
-/
import Derived.Test.YtinholnidchblaaGreatDoorQar
import Derived.Deep.RegionHeld
import Derived.BigQuiet
set_option linter.unusedVariables false
set_option linter.unusedSimpArgs false
namespace Go.Proofs.YtinholnidchblaaGreatDoor
open Go.RowKit
set_option linter.unusedVariables false
set_option linter.unusedSimpArgs false

theorem mem_take {M : List (List UInt8)} {y : List UInt8} {j : Nat} (hj : j < M.length) : decide (y ∈ M.take (j + 1)) = (decide (y ∈ M.take j) || decide (tat M j = y)) := by
  have e : M.take (j + 1) = M.take j ++ [tat M j] := by
    rw [List.take_succ_eq_append_getElem hj]; simp [tat, List.getD, hj]
  rw [e, Bool.eq_iff_iff]
  simp only [List.mem_append, List.mem_singleton, decide_eq_true_eq, Bool.or_eq_true]
  constructor
  · rintro (h | h)
    · exact .inl h
    · exact .inr h.symm
  · rintro (h | h)
    · exact .inl h
    · exact .inr h.symm
theorem mem_text {M : List (List UInt8)} {u : ByteArray} : u ∈ M.map tx ↔ u.data.toList ∈ M := by
  rw [List.mem_map]
  constructor
  · rintro ⟨y, hy, rfl⟩
    rw [data_tx]; exact hy
  · intro h
    exact ⟨_, h, tx_data u⟩
theorem rise_at {M : List (List UInt8)} (h : (M.map tx).Pairwise fun x y => blt x y = true) {m : Nat} (hm : m + 1 < M.length) : Op.bytesLess (tx (tat M m)).toList (tx (tat M (m + 1))).toList = true := by
  have := List.pairwise_iff_getElem.1 h m (m + 1) (by rw [List.length_map]; omega) (by rw [List.length_map]; exact hm) (by omega)
  rw [List.getElem_map, List.getElem_map] at this
  have e : ∀ j, (hj : j < M.length) → tat M j = M[j] := fun j hj => by simp [tat, List.getD, hj]
  rw [e m (by omega), e (m + 1) hm]
  exact this
theorem text_is {x : List UInt8} {u : ByteArray} (h : x = u.data.toList) : ((tx x).toList == u.toList) = true := by rw [h, tx_data]; simp
theorem text_not {x : List UInt8} {u : ByteArray} (h : x ≠ u.data.toList) : ((tx x).toList == u.toList) = false := by
  have := text_neq h
  rwa [tx_data] at this
theorem lists_bad {L : List Nd} (h : Rgt L) {p r : ByteArray} {D : List Nd × Rv} (e1 : D = doO L 11 (nms p) (nms r) 0 0 []) (he : D.2.err ≠ 0) : D.2.ns = [] := by
  rw [(lp_bad h e1 he).2]; rfl
theorem lists_none {L : List Nd} (h : Rgt L) {p r : ByteArray} {D : List Nd × Rv} (e1 : D = doO L 11 (nms p) (nms r) 0 0 []) (hp : spl p.data.toList = none) : D.2.err ≠ 0 := by
  obtain ⟨-, b1⟩ := lp_ask h (.inr (.inl rfl)) e1
  have : nms p = none := by rw [nms, hp]; rfl
  rw [b1, this]
  show (20 : Int) ≠ 0
  decide
theorem joi_size {L : List (List UInt8)} {s : List UInt8} (h : joi L = some s) : (tx s).size ≤ 1000000 := by
  unfold joi at h
  split at h
  · rename_i ha
    cases h
    rw [tx_size, List.length_cons]
    have := joi_len ha
    omega
  · cases h
section
variable {w : World} {a : Option Addr} {n c : Nat} {f : Nat → Oc}
set_option maxRecDepth 100000 in
set_option maxHeartbeats 16000000 in
theorem treeLists_any (h : Ops w a n f) (s u : ByteArray) (hs : s.size ≤ 9223372036854775807) (hu : u.size ≤ 9223372036854775807) : Calls Tryz.prog 9 #[.slice a n c, .string s, .string u] w fun e w' => e = .returned (.bool true) ∧ Below w.heap.size w w' := by
  have HB : Hid (Below w.heap.size w w) := Lib.hid (Below.refl _ _)
  have HA := Lib.hid h
  clear h
  have hc := alive_any w
  go_enter Tryz.func9, Tryz.ntmps9
  go_wp2_with (fail)
  refine hc.mono ?_
  rintro e w91 ⟨rfl, hb⟩
  replace HB := Lib.hid (HB.out.trans (hb.mono HB.out.size))
  replace HA := Lib.hid (HA.out.next hb)
  clear hc hb
  have hc := made_any (c := c) HA.out
  go_wp2_with (fail)
  refine hc.mono ?_
  rintro e w92 ⟨L, aL, cL, ok, rfl, hT, hb⟩
  replace HB := Lib.hid (HB.out.trans (hb.mono HB.out.size))
  replace HA := Lib.hid (HA.out.next hb)
  clear hc hb
  obtain ⟨w93, x9, hw, hx, hV, hb⟩ := new_tr hT
  have HL9 := Lib.hid (show w.heap.size ≤ x9 by rw [hx]; exact HB.out.size)
  replace HB := Lib.hid (HB.out.trans (hb.mono HB.out.size))
  replace HA := Lib.hid (HA.out.next hb)
  have HV9 := Lib.hid hV
  have HW9 := Lib.hid hw
  have HX9 := Lib.hid hx
  have HRG := Lib.hid hV.tv.rgt
  clear hT hw hx hV hb
  cases ok with
  | false =>
    go_wp2_with (fail)
    rw [← HX9.out, ← HW9.out]
    go_ret
    exact ⟨rfl, HB.out⟩
  | true =>
    by_cases hq : 1000 < s.size
    · have hq2 : (1000 : Int) < (s.size : Int) := by omega
      clear hq
      go_wp2_with (fail)
      rw [← HX9.out, ← HW9.out]
      go_ret
      exact ⟨rfl, HB.out⟩
    have hn0 : ¬ (1000 : Int) < (s.size : Int) := by omega
    clear hq
    by_cases hq : 1000 < u.size
    · have hq2 : (1000 : Int) < (u.size : Int) := by omega
      clear hq
      go_wp2_with (fail)
      rw [← HX9.out, ← HW9.out]
      go_ret
      exact ⟨rfl, HB.out⟩
    have hn1 : ¬ (1000 : Int) < (u.size : Int) := by omega
    clear hq
    have HC : Hid (s.size ≤ 1000 ∧ u.size ≤ 1000) := Lib.hid (by omega)
    have hc := doT HV9.out.tv 11 0 0 s (⟨#[]⟩ : ByteArray) none 0 0 [] (by have := HC.out; omega) (by decide) (by decide) (by decide) (Pin.zero _)
    obtain ⟨D1, hD⟩ : ∃ D, D = doO L 11 (nms s) (nms (⟨#[]⟩ : ByteArray)) 0 0 [] := ⟨_, rfl⟩
    rw [← hD] at hc
    have HD1 := Lib.hid hD
    clear hD
    go_wp2_with (fail)
    rw [← HX9.out, ← HW9.out]
    refine hc.mono ?_
    rintro e w1 ⟨a1, c1, da1, dn1, dc1, na1, nn1, nc1, Ls1, rfl, hT, hS, hb⟩
    replace HB := Lib.hid (HB.out.trans (hb.mono HB.out.size))
    replace HA := Lib.hid (HA.out.next hb)
    replace HV9 := Lib.hid (HV9.out.next hb)
    clear hn0 hn1 hc hb
    obtain ⟨w1s, x1, y1, hw, hx, hy, hV, hR, hb⟩ := new_tr_rs hT hS
    have HL1 := Lib.hid (show w.heap.size ≤ x1 by rw [hx]; exact HB.out.size)
    replace HB := Lib.hid (HB.out.trans (hb.mono HB.out.size))
    replace HA := Lib.hid (HA.out.next hb)
    replace HV9 := Lib.hid (HV9.out.next hb)
    have HV1 := Lib.hid hV
    have HR1 := Lib.hid hR
    have HW1 := Lib.hid hw
    have HX1 := Lib.hid hx
    have HY1 := Lib.hid hy
    clear hT hS hw hx hy hV hR hb
    unfold resW
    have hc := split_any s w1s (by have := HC.out; omega)
    go_wp2_with (fail)
    rw [← HY1.out, ← HX1.out, ← HW1.out]
    refine hc.mono ?_
    rintro e w2 ⟨hsp, hb⟩
    have HBS := Lib.hid hb
    have KB := HB
    have KV9 := HV9
    have KR1 := HR1
    replace HB := Lib.hid (HB.out.trans (hb.mono HB.out.size))
    replace HA := Lib.hid (HA.out.next hb)
    replace HV9 := Lib.hid (HV9.out.next hb)
    replace HV1 := Lib.hid (HV1.out.next hb)
    replace HR1 := Lib.hid (HR1.out.next hb)
    clear hc hb
    cases hs0 : spl s.data.toList with
    | none =>
      rw [hs0] at hsp
      have hsp2 : e = .returned (.tuple #[.slice none 0 0, .int .i64 20]) := hsp
      subst hsp2
      have hne := lists_none HRG.out HD1.out hs0
      have hz := lists_bad HRG.out HD1.out hne
      have z2 : nn1 = 0 := by
        have h7 := HR1.out.res.names.len
        have h8 := congrArg List.length HR1.out.res.nam
        rw [List.length_map, hz] at h8
        rw [← h7, h8]
        rfl
      have he2 : (D1.2.err != 0) = true := by simpa using hne
      obtain ⟨rk0, rk1, rk2, rk3, rk4, rk5⟩ := HR1.out.var.cells
      rw [z2] at rk2
      clear hsp hz z2 hne hs0
      go_wp2_with (fail)
      go_ret
      exact ⟨rfl, HB.out⟩
    | some l =>
      rw [hs0] at hsp
      obtain ⟨v, he0, hO⟩ : ∃ v, e = .returned (.tuple #[v, .int .i64 0]) ∧ OwnT w2 w1s.heap.size v l.length l := hsp
      subst he0
      have HO := Lib.hid hO
      have HSL := Lib.hid hs0
      clear hO hs0
      by_cases he : D1.2.err = 0
      · have HE := Lib.hid he
        have he2 : (D1.2.err != 0) = false := by simpa using he
        clear he
        obtain ⟨rk0, rk1, rk2, rk3, rk4, rk5⟩ := HR1.out.var.cells
        have hl8 : l.length ≤ 8 := arP_len (spl_arP HSL.out)
        go_wp2_with (at_builtin; go_must (refine wpList_apT rfl (.tmp 61) (.tmp 63) rfl w1s.heap.size v l.length l rfl (HO.out.alloc _) ⟨w2.heap.size, 0, none⟩ 1 1 [u.data.toList] rfl (sts_one u rfl) (by omega) (Nat.le_trans HBS.out.size (by simp)) w1s (HBS.out.alloc HBS.out.size _) ?_); intro v3 w3 hO3 hb3; obtain ⟨a3, c3, hv3, hS3, hn3, hm3, hz3, hl3⟩ := hO3.sts; subst hv3; have HS3 := Lib.hid (And.intro hS3 (And.intro hn3 hz3)); have HB3 := Lib.hid hb3; clear hO3 hS3 hn3 hm3 hz3 hl3 hb3)
        replace HB := Lib.hid (KB.out.trans (HB3.out.mono KB.out.size))
        replace HV9 := Lib.hid (KV9.out.next HB3.out)
        replace HR1 := Lib.hid (KR1.out.next HB3.out)
        clear KB KV9 KR1
        clear he2 rk0 rk1 rk2 rk3 rk4 rk5
        refine (join_any w3 a3 (l.length + 1) c3 (l ++ [u.data.toList]) HS3.out.1 HS3.out.2.1 (fun e => (HS3.out.2.2 e).1)).mono ?_
        rintro e w4 ⟨hj, hb⟩
        replace HB := Lib.hid (HB.out.trans (hb.mono HB.out.size))
        replace HV9 := Lib.hid (HV9.out.next hb)
        replace HR1 := Lib.hid (HR1.out.next hb)
        clear hb
        cases hj0 : joi (l ++ [u.data.toList]) with
        | none =>
          rw [hj0] at hj
          have hj2 : e = .returned (.tuple #[.string ⟨#[]⟩, .int .i64 20]) := hj
          subst hj2
          clear hj hj0
          go_wp2_with (fail)
          go_ret
          exact ⟨rfl, HB.out⟩
        | some p =>
          rw [hj0] at hj
          have hj2 : e = .returned (.tuple #[.string (tx p), .int .i64 0]) := hj
          subst hj2
          have HJ := Lib.hid hj0
          clear hj hj0
          have vf := HV9.out.var.cell
          have lf := HV9.out.var.load
          have hc := findT HV9.out.tv (tx p) (joi_size HJ.out)
          obtain ⟨F2, hF⟩ : ∃ F, F = fiO L (nms (tx p)) := ⟨_, rfl⟩
          rw [← hF] at hc
          have HF2 := Lib.hid hF
          clear hF
          go_wp2_with (fail)
          refine hc.mono ?_
          rintro e w2f ⟨rfl, hb⟩
          replace HB := Lib.hid (HB.out.trans (hb.mono HB.out.size))
          replace HV9 := Lib.hid (HV9.out.next hb)
          replace HR1 := Lib.hid (HR1.out.next hb)
          clear vf lf hc hb
          have HN := Lib.hid HR1.out.res.nam
          have HPL := Lib.hid (lists_plain (q := tx p) (x := u) HRG.out HD1.out HSL.out (by rw [data_tx]; exact spl_joi HJ.out) HF2.out HE.out)
          have HNL := Lib.hid HR1.out.res.names.len
          have HN64 := Lib.hid (show nn1 ≤ 64 by have h7 := (lp_small HRG.out HD1.out).2; rw [← HN.out, List.length_map, HNL.out] at h7; exact h7)
          go_wp2_with (fail)
          go_loopw [16, 17] (fun v16 v17 wr => ∃ k q : Nat, k ≤ nn1 ∧ v17 = .int .i64 k ∧ v16 = .bool (decide (u.data.toList ∈ Ls1.take k)) ∧ wr = w2f.drewN q) (fun _ v17 _ => nn1 - (RowKit.intOf v17).toNat)
          case atStart => exact ⟨0, 0, Nat.zero_le _, rfl, by simp, rfl⟩
          case round =>
            obtain ⟨k, q, hk, rfl, rfl, hwr⟩ := hrel
            subst hwr
            obtain ⟨r0, r1, r2, r3, r4, r5⟩ := HR1.out.var.cells
            clear r0 r1 r3 r4 r5
            have hn64 := HN64.out
            by_cases hlt : k < nn1
            · have j0 : (0 : Int) ≤ (k : Int) := by omega
              have j1 : (k : Int) < (nn1 : Int) := by omega
              obtain ⟨b, off, rfl, hbl, hcs⟩ := HR1.out.res.names.at (by omega)
              have ck := hcs k hlt
              have hmt := mem_take (M := Ls1) (y := u.data.toList) (j := k) (by rw [HNL.out]; exact hlt)
              have HLT := Lib.hid hlt
              have seen : ∃ b1 b2 : Bool, decide (u.data.toList ∈ Ls1.take k) = b1 ∧ ((tx (tat Ls1 k)).toList == u.toList) = b2 ∧ decide (u.data.toList ∈ Ls1.take (k + 1)) = (b1 || b2) := by
                by_cases hx : tat Ls1 k = u.data.toList
                · exact ⟨_, true, rfl, text_is hx, by rw [hmt, decide_eq_true hx]⟩
                · exact ⟨_, false, rfl, text_not hx, by rw [hmt, decide_eq_false hx]⟩
              obtain ⟨b1, b2, hb1, hb2, hb3⟩ := seen
              rw [hb1]
              have HB3 := Lib.hid hb3
              clear hmt hb1 hb3 hbl
              by_cases hk0 : k = 0
              · have hd : decide ((0 : Int) < (k : Int)) = false := decide_eq_false (by omega)
                have hd2 : decide (0 < k) = false := decide_eq_false (by omega)
                clear hcs hk0
                cases b1 <;> cases b2
                all_goals
                  go_wp2_with (fail)
                  go_quiet (fail)
                  go_wp2_with (fail)
                  go_roundw
                  case rel => exact ⟨k + 1, q + nq, HLT.out, by go_num, by rw [HB3.out]; rfl, rfl⟩
                  case measure => have := HLT.out; simp [RowKit.intOf]; omega
              · obtain ⟨m, hm⟩ : ∃ m, k = m + 1 := ⟨k - 1, by omega⟩
                have cm := hcs m (by omega)
                have hd : decide ((0 : Int) < (k : Int)) = true := decide_eq_true (by omega)
                have hd2 : decide (0 < k) = true := decide_eq_true (by omega)
                have hw1 : wrap64 ((k : Int) - 1) = (m : Int) := by rw [show (k : Int) - 1 = (m : Int) by omega]; unfold wrap64; omega
                have hw2 : IntKind.i64.wrap ((k : Int) - 1) = (m : Int) := by rw [show (k : Int) - 1 = (m : Int) by omega]; exact IntWalk.i64_in _ (by omega)
                have k3 : (m : Int) < (nn1 : Int) := by omega
                have k4 : (0 : Int) ≤ (m : Int) := by omega
                have hbt : Op.bytesLess (tx (tat Ls1 m)).toList (tx (tat Ls1 k)).toList = true := by
                  rw [hm]
                  exact rise_at (M := Ls1) (by rw [HN.out]; exact HPL.out.1) (m := m) (by rw [HNL.out]; omega)
                clear hcs hk0 hm
                cases b1 <;> cases b2
                all_goals
                  go_wp2_with (fail)
                  go_quiet (fail)
                  go_wp2_with (fail)
                  go_roundw
                  case rel => exact ⟨k + 1, q + nq, HLT.out, by go_num, by rw [HB3.out]; rfl, rfl⟩
                  case measure => have := HLT.out; simp [RowKit.intOf]; omega
            · obtain rfl : k = nn1 := by omega
              have HBZ := Lib.hid (below_drewN HB.out q)
              have hall : decide (u.data.toList ∈ Ls1.take k) = (F2.2 == 0) := by
                rw [List.take_of_length_le (by rw [HNL.out]; exact Nat.le_refl _), Bool.eq_iff_iff, decide_eq_true_eq, beq_iff_eq, ← mem_text, HN.out]
                exact HPL.out.2.symm
              rw [hall]
              clear hall
              cases hf : (F2.2 == 0)
              all_goals
                go_wp2_with (fail)
                go_ret
                exact ⟨rfl, HBZ.out⟩
      · have hz := lists_bad HRG.out HD1.out he
        have z2 : nn1 = 0 := by
          have h7 := HR1.out.res.names.len
          have h8 := congrArg List.length HR1.out.res.nam
          rw [List.length_map, hz] at h8
          rw [← h7, h8]
          rfl
        have he2 : (D1.2.err != 0) = true := by simpa using he
        obtain ⟨rk0, rk1, rk2, rk3, rk4, rk5⟩ := HR1.out.var.cells
        rw [z2] at rk2
        clear hz z2 he
        go_wp2_with (fail)
        go_ret
        exact ⟨rfl, HB.out⟩
end
end Go.Proofs.YtinholnidchblaaGreatDoor
