/-
  The counts: the document's.
-/
import Derived.Test.YtdgjhfghggcfaaaBq
namespace Go.Proofs.Ytdgjhfghggcfaaa
open Go.RowKit
set_option linter.unusedVariables false

/-- A list of numbers and a bool that a call answers. -/
def RetC (w0 : World) (l : List Int) (ok : Bool) (e : Ending) (w' : World) : Prop := ∃ a c, e = .returned (.tuple #[.slice a l.length c, .bool ok]) ∧ Ins w' a l.length l ∧ (∀ x, a = some x → w0.heap.size ≤ x.block) ∧ Below w0.heap.size w0 w'
theorem RetC.nil (w0 : World) {w' : World} (hb : Below w0.heap.size w0 w') : RetC w0 [] false (.returned (.tuple #[.slice none 0 0, .bool false])) w' := ⟨_, _, rfl, ⟨rfl, .inl rfl⟩, (fun _ h => by cases h), hb⟩
/-- The counts of a geometry. -/
def CntR (d r s : Int) (L l : List Int) (ok : Bool) : Prop :=
  (Rt d r s → AdOk (s.toNat * (PL d r).toNat) L → l = cL s.toNat (PL d r).toNat L ∧ ok = true) ∧ (¬ (Rt d r s ∧ AdOk (s.toNat * (PL d r).toNat) L) → l = [] ∧ ok = false)
theorem CntR.one {d r s : Int} {L l m : List Int} {b c : Bool} (h : CntR d r s L l b) (k : CntR d r s L m c) : l = m ∧ b = c := by
  by_cases hr : Rt d r s ∧ AdOk (s.toNat * (PL d r).toNat) L
  · obtain ⟨rfl, rfl⟩ := h.1 hr.1 hr.2
    obtain ⟨rfl, rfl⟩ := k.1 hr.1 hr.2
    exact ⟨rfl, rfl⟩
  · obtain ⟨rfl, rfl⟩ := h.2 hr
    obtain ⟨rfl, rfl⟩ := k.2 hr
    exact ⟨rfl, rfl⟩
/-- Which of the addresses up to T are marked. -/
def mkB (T : Nat) (L : List Int) : List Value := (List.range (T + 1)).map fun a : Nat => .bool (decide ((a : Int) ∈ L))
theorem mkB_nil (T : Nat) : mkB T [] = List.replicate (T + 1) (.bool false) := by
  unfold mkB
  apply List.ext_getElem
  · simp
  · intro i h1 h2
    simp
theorem mkB_at {T a : Nat} {L : List Int} (h : a ≤ T) : (mkB T L)[a]? = some (.bool (decide ((a : Int) ∈ L))) := by
  unfold mkB
  rw [List.getElem?_map, List.getElem?_range (by omega)]
  rfl
theorem mkB_set {T a : Nat} {L : List Int} (h : a ≤ T) : (mkB T L).set a (.bool true) = mkB T (L ++ [(a : Int)]) := by
  apply List.ext_getElem?
  intro i
  by_cases hi : i ≤ T
  · rw [mkB_at hi]
    by_cases e : a = i
    · subst e
      rw [List.getElem?_set_self (by simp [mkB]; omega)]
      simp
    · rw [List.getElem?_set_ne e, mkB_at hi]
      have : ¬ (i : Int) = (a : Int) := by omega
      simp [this]
  · rw [List.getElem?_eq_none (by simp [mkB]; omega), List.getElem?_eq_none (by simp [mkB]; omega)]
/-- The counts of the first t addresses. -/
def cuL (S D : Nat) (L : List Int) (t : Nat) : List Int := (List.range S).map fun s : Nat => ((cU D L s t : Nat) : Int)
theorem cuL_zero (S D : Nat) (L : List Int) : (cuL S D L 0).map (Value.int .i64) = List.replicate S (.int .i64 0) := by
  apply List.ext_getElem
  · simp [cuL]
  · intro i h1 h2
    simp [cuL, cU]
theorem cuL_at {S D s t : Nat} {L : List Int} (h : s < S) : ((cuL S D L t).map (Value.int .i64))[s]? = some (.int .i64 (cU D L s t : Nat)) := by
  unfold cuL
  rw [List.getElem?_map, List.getElem?_map, List.getElem?_range h]
  rfl
theorem cuL_set {S D s t : Nat} {L M : List Int} {u : Nat} (h : s < S) (hs : ∀ j, j < S → cU D M j u = cU D L j t + if j = s then 1 else 0) :
    ((cuL S D L t).map (Value.int .i64)).set s (.int .i64 (((cU D L s t : Nat) : Int) + 1)) = (cuL S D M u).map (Value.int .i64) := by
  apply List.ext_getElem?
  intro i
  by_cases hi : i < S
  · rw [cuL_at hi, hs i hi]
    by_cases e : s = i
    · subst e
      rw [List.getElem?_set_self (by simp [cuL]; omega), if_pos rfl]
      simp
    · rw [List.getElem?_set_ne e, cuL_at hi, if_neg (fun x => e x.symm), Nat.add_zero]
  · rw [List.getElem?_eq_none (by simp [cuL]; omega), List.getElem?_eq_none (by simp [cuL]; omega)]
theorem cuL_same {S D t u : Nat} {L M : List Int} (hs : ∀ j, j < S → cU D M j u = cU D L j t) : cuL S D M u = cuL S D L t := by
  unfold cuL
  apply List.map_congr_left
  intro j hj
  rw [hs j (List.mem_range.1 hj)]
theorem adOk_take {T k : Nat} {L : List Int} (hk : k < L.length) (h : AdOk T (L.take k)) (h0 : 0 ≤ num L k) (h1 : num L k ≤ (T : Int)) : AdOk T (L.take (k + 1)) := by
  rw [take_num hk]
  intro z hz
  rcases List.mem_append.1 hz with hz | hz
  · exact h z hz
  · rw [List.mem_singleton.1 hz]; exact ⟨h0, h1⟩
set_option maxHeartbeats 2000000 in
theorem rcount_out (d r s : Int) (a : Option Addr) (n c : Nat) (w : World) (h : ¬ Rt d r s) :
    Calls Try.prog 13 #[gv d r s, .slice a n c] w (RetC w [] false) := by
  have x1 := Bx.mk' w d r s 23
  go_enter Try.func13, Try.ntmps13
  go_wp2_with (fail)
  refine (rright_no d r s _ h).mono ?_
  rintro e w2 ⟨rfl, hb⟩
  have hB := bel_box' _ (by simp) hb
  clear x1 hb
  go_wp2_with (fail)
  go_ret2
  exact RetC.nil _ hB
set_option maxRecDepth 100000 in
set_option maxHeartbeats 8000000 in
theorem rcount_in (d r s : Int) (a : Option Addr) (n c : Nat) (L : List Int) (w : World) (h : Rt d r s) (hk : Ins w a n L) (hn : n ≤ 1000000000000) :
    Calls Try.prog 13 #[gv d r s, .slice a n c] w fun e w' => ∃ l ok, RetC w l ok e w' ∧ CntR d r s L l ok := by
  have x1 := Bx.mk' w d r s 23
  obtain ⟨p1, p2, _, _⟩ := PL_bd h.d1 h.d2 h.r1 h.r2
  have s1 := h.s1
  have s2 := h.s2
  have hpl : ∀ w, Calls Try.prog 26 #[gv d r s] w fun e w' => e = .returned (.int .i64 (PL d r)) ∧ Below w.heap.size w w' := fun w => rplaces_yes d r s w h
  obtain ⟨S, rfl⟩ := Int.eq_ofNat_of_zero_le (show 0 ≤ s by omega)
  obtain ⟨D, hD⟩ := Int.eq_ofNat_of_zero_le (show 0 ≤ PL d r by omega)
  have hC1 : Hid (AdOk (S * D) L → CntR d r S L (cL S D L) true) := Lib.hid fun hA => by
    unfold CntR
    rw [hD, Int.toNat_natCast, Int.toNat_natCast]
    exact ⟨fun _ _ => ⟨rfl, rfl⟩, fun hh => absurd ⟨h, hA⟩ hh⟩
  have hC2 : Hid (¬ AdOk (S * D) L → CntR d r S L [] false) := Lib.hid fun hA => by
    unfold CntR
    rw [hD, Int.toNat_natCast, Int.toNat_natCast]
    exact ⟨fun _ hh => absurd hh hA, fun _ => ⟨rfl, rfl⟩⟩
  rw [hD] at hpl p1 p2
  have HPL := Lib.hid hpl
  have hl := hk.len
  have hTm : S * D ≤ 64 * 59 := Nat.mul_le_mul (by omega) (by omega)
  obtain ⟨T, hT⟩ : ∃ T, T = S * D := ⟨_, rfl⟩
  have hTw : IntKind.i64.wrap ((S : Int) * (D : Int)) = (T : Int) := by
    rw [hT, Int.natCast_mul]
    exact IntWalk.i64_in _ (by have := Int.natCast_mul S D; omega)
  have HT := Lib.hid hT
  have HTd : Hid (∀ t, t < T → t / D < S) := Lib.hid fun t ht => Nat.div_lt_of_lt_mul (by rw [Nat.mul_comm, ← hT]; exact ht)
  rw [← hT] at hC1 hC2 hTm
  have HK := Lib.hid hk
  clear hk hD hpl hT
  go_enter Try.func13, Try.ntmps13
  go_wp2_with (fail)
  refine (rright_yes d r S _ h).mono ?_
  rintro e w2 ⟨rfl, hb⟩
  have hB := bel_box' _ (by simp) hb
  have x2 := x1.next hb
  have y0 := x2.c0
  have y1 := x2.c1
  have y2 := x2.c2
  have HX := Lib.hid x2
  have HB := Lib.hid hB
  clear x1 hb x2 hB
  go_wp2_with (fail)
  refine (HPL.out _).mono ?_
  rintro e w3 ⟨rfl, hb⟩
  have x3 := HX.out.next hb
  have hB := HB.out.trans (hb.mono (Nat.le_of_lt HX.out.lt))
  have y0 := x3.c0
  have y1 := x3.c1
  have y2 := x3.c2
  have HX3 := Lib.hid x3
  have HB3 := Lib.hid hB
  have hl3 : w.heap.size < w3.heap.size := x3.lt
  clear hb hB x3 HX HB
  go_wp2_with (at_make; go_must (refine wpList_mkb rfl (.tmp 20) (.tmp 20) rfl (T + 1) _ _ rfl rfl (by simp) (by simp) (by omega) ?_); intro w4 hq4 hb4)
  rw [← mkB_nil T] at hq4
  obtain ⟨g, hg⟩ : ∃ g, g = w3.heap.size := ⟨_, rfl⟩
  rw [← hg] at hq4 hb4 hl3 ⊢
  have HQ4 := Lib.hid hq4
  have HB4 := Lib.hid hb4
  have hg4 : g < w4.heap.size := hq4.lt
  have HG := Lib.hid hg
  clear hg hq4 hb4 y0 y1 y2
  go_loopw [8] (fun v wr => ∃ k : Nat, k ≤ n ∧ v = .int .i64 k ∧ AdOk T (L.take k) ∧ Blq wr g 4 (mkB T (L.take k)) ∧ Below g w3 wr) (fun v _ => n - (RowKit.intOf v).toNat)
  case atStart => exact ⟨0, by omega, rfl, (fun z hz => by simp at hz), HQ4.out, HB4.out⟩
  case round =>
    obtain ⟨k, hkn, rfl, hA, hq, hb⟩ := hrel
    have HA := Lib.hid hA
    have HQ := Lib.hid hq
    have HBk := Lib.hid hb
    have k0 : (0 : Int) ≤ (k : Int) := by omega
    have y2 := (hb.cell (p := ⟨w.heap.size, 2, none⟩) (by exact hl3)).trans HX3.out.c2
    have hBw := HB3.out.trans (hb.mono (by omega))
    have hlr : w.heap.size < wr.heap.size := by have := hb.size; rw [← HG.out] at this; omega
    by_cases hlt : k < n
    · have k1 : (k : Int) < (n : Int) := by omega
      obtain ⟨b, off, rfl, hbl, hc⟩ := (HK.out.below (Nat.le_refl _) hBw).at (by omega)
      have y := hc k hlt
      have hmem : Hid (num L k ∈ L) := Lib.hid (num_mem (by omega))
      clear hA hq hb hc hBw
      by_cases z1 : num L k < 0
      · have z1' : decide (num L k < 0) = true := decide_eq_true z1
        have HR : Hid (RetC w [] false (.returned (.tuple #[.slice none 0 0, .bool false])) wr) := Lib.hid (RetC.nil _ (HB3.out.trans (HBk.out.mono (by omega))))
        have HN : Hid (¬ AdOk T L) := Lib.hid fun hh => by have := (hh _ hmem.out).1; omega
        go_wp2_with (fail)
        go_quiet (fail)
        go_wp2_with (fail)
        go_ret2
        obtain ⟨a', c', e', hi', ha', hb'⟩ := HR.out
        exact ⟨[], false, ⟨a', c', e', hi'.drewN _, ha', below_drewN hb' _⟩, hC2.out HN.out⟩
      · have z1' : decide (num L k < 0) = false := decide_eq_false z1
        by_cases z2 : (T : Int) < num L k
        · have z2' : decide ((T : Int) < num L k) = true := decide_eq_true z2
          have HR : Hid (RetC w [] false (.returned (.tuple #[.slice none 0 0, .bool false])) wr) := Lib.hid (RetC.nil _ (HB3.out.trans (HBk.out.mono (by omega))))
          have HN : Hid (¬ AdOk T L) := Lib.hid fun hh => by have := (hh _ hmem.out).2; omega
          go_wp2_with (fail)
          go_quiet (fail)
          go_wp2_with (fail)
          go_ret2
          obtain ⟨a', c', e', hi', ha', hb'⟩ := HR.out
          exact ⟨[], false, ⟨a', c', e', hi'.drewN _, ha', below_drewN hb' _⟩, hC2.out HN.out⟩
        · have z2' : decide ((T : Int) < num L k) = false := decide_eq_false z2
          have HA2 : Hid (AdOk T (L.take (k + 1))) := Lib.hid (adOk_take (by omega) HA.out (by omega) (by omega))
          have HTk := Lib.hid (take_num (ks := L) (k := k) (by omega))
          obtain ⟨m, hm⟩ := Int.eq_ofNat_of_zero_le (show 0 ≤ num L k by omega)
          rw [hm] at y z1 z1' z2 z2' HTk
          have hmT : m ≤ T := by omega
          have m0 : (0 : Int) ≤ (m : Int) := by omega
          have m1 : (m : Int) < ((T + 1 : Nat) : Int) := by omega
          clear hm
          go_wp2_with (fail)
          go_quiet (fail)
          obtain ⟨W1, hW1⟩ : ∃ W1, W1 = wr.drewN nq := ⟨_, rfl⟩
          have hq1 := HQ.out.drewN nq
          have hb1 := below_drewN HBk.out nq
          have yy : W1.cell? ⟨b, off + k, none⟩ = some (.int .i64 (m : Int)) := by rw [hW1]; exact y
          rw [← hW1] at hq1 hb1 ⊢
          clear hW1 y y2
          have u1 := hq1.cell (mkB_at (L := L.take k) hmT)
          have u2 := hq1.free m
          have hq2 := hq1.set m (.bool true)
          rw [mkB_set hmT] at hq2
          have HQ2 := Lib.hid hq2
          have HB2 := Lib.hid (below_setq hb1 (Nat.le_refl g) m (.bool true))
          clear hq1 hb1 hq2
          go_wp2_with (fail)
          go_roundw
          case rel => exact ⟨k + 1, by omega, by go_num, HA2.out, by rw [HTk.out]; exact HQ2.out, HB2.out⟩
          case measure => simp [RowKit.intOf]; omega
    · obtain rfl : k = n := by omega
      have k1 : decide ((k : Int) < (k : Int)) = false := decide_eq_false (by omega)
      have hfull : L.take k = L := List.take_of_length_le (by omega)
      rw [hfull] at HA HQ
      have hgw : g < wr.heap.size := HQ.out.lt
      clear hA hq hb hfull hBw
      go_wp2_with (at_make; go_must (refine wpList_mki rfl (.tmp 51) (.tmp 51) rfl S rfl rfl (by omega) ?_); intro w5 hq5 hb5)
      rw [← cuL_zero S D L] at hq5
      obtain ⟨g2, hg2⟩ : ∃ g2, g2 = wr.heap.size := ⟨_, rfl⟩
      rw [← hg2] at hq5 hb5 hgw ⊢
      have HQ5 := Lib.hid hq5
      have HB5 := Lib.hid hb5
      have HG2 := Lib.hid hg2
      have HU : Hid (∀ X, Below g2 wr X → Blq X g 4 (mkB T L)) := Lib.hid fun X hX => HQ.out.below hgw hX
      have HXX : Hid (∀ X, Below g2 wr X → X.cell? ⟨w.heap.size, 2, none⟩ = some (.int .i64 (S : Int))) := Lib.hid fun X hX =>
        (hX.cell (p := ⟨w.heap.size, 2, none⟩) (by show w.heap.size < g2; omega)).trans y2
      have HBB : Hid (∀ X, Below g2 wr X → Below w.heap.size w X) := Lib.hid fun X hX => HB3.out.trans ((HBk.out.mono (by omega)).trans (hX.mono (by omega)))
      clear hq5 hb5 hg2 y2 HQ
      go_loopw [10] (fun v wx => ∃ t : Nat, t ≤ T ∧ v = .int .i64 ((t : Int) + 1) ∧ Blq wx g2 3 ((cuL S D L t).map (Value.int .i64)) ∧ Below g2 wr wx) (fun v _ => T + 1 - (RowKit.intOf v).toNat)
      case atStart => exact ⟨0, by omega, rfl, HQ5.out, HB5.out⟩
      case round =>
        obtain ⟨t, htT, rfl, hq, hb⟩ := hrel
        have y2 := HXX.out _ hb
        have hu := HU.out _ hb
        have HBx := Lib.hid hb
        by_cases hlt : t < T
        · have k1 : (t : Int) + 1 ≤ (T : Int) := by omega
          have ux := hu.cell (mkB_at (L := L) (show t + 1 ≤ T by omega))
          have m0 : (0 : Int) ≤ (t : Int) + 1 := by omega
          have m1 : (t : Int) + 1 < ((T + 1 : Nat) : Int) := by omega
          have hds := HTd.out t hlt
          have hW : Int.tdiv (t : Int) (D : Int) = ((t / D : Nat) : Int) := by rw [Int.tdiv_eq_ediv_of_nonneg (by omega)]; simp
          obtain ⟨sg, hsg⟩ : ∃ sg, sg = t / D := ⟨_, rfl⟩
          rw [← hsg] at hW hds
          have HST : Hid (∀ j, cU D L j (t + 1) = cU D L j t + if has1 L t = true ∧ sg = j then 1 else 0) := Lib.hid fun j => by rw [cU_succ, hsg]
          have hcu := cU_le (D := D) (by omega) L sg t
          have q1 := hq.cell (cuL_at (D := D) (t := t) (L := L) hds)
          have q2 := hq.free sg
          have HQx := Lib.hid hq
          have s0 : (0 : Int) ≤ (sg : Int) := by omega
          have s3 : (sg : Int) < (S : Int) := by omega
          have z1 : (D : Int) ≠ 0 := by omega
          clear hu hq hb hsg
          by_cases hm : ((t + 1 : Nat) : Int) ∈ L
          · have hh : has1 L t = true := decide_eq_true hm
            rw [show decide (((t + 1 : Nat) : Int) ∈ L) = true from hh] at ux
            have hq2 := HQx.out.set sg (.int .i64 (((cU D L sg t : Nat) : Int) + 1))
            rw [cuL_set (M := L) (u := t + 1) hds (fun j _ => by rw [HST.out j]; congr 1; by_cases e : j = sg <;> simp [e, hh, Ne.symm])] at hq2
            have HQ2 := Lib.hid hq2
            have HB2 := Lib.hid (below_setq HBx.out (Nat.le_refl g2) sg (.int .i64 (((cU D L sg t : Nat) : Int) + 1)))
            clear hq2 hm hh
            go_wp2_with (fail)
            go_roundw
            case rel => exact ⟨t + 1, by omega, by go_num, HQ2.out, HB2.out⟩
            case measure => simp [RowKit.intOf]; omega
          · have hh : has1 L t = false := decide_eq_false hm
            rw [show decide (((t + 1 : Nat) : Int) ∈ L) = false from hh] at ux
            have HE := Lib.hid (cuL_same (S := S) (D := D) (t := t) (u := t + 1) (L := L) (M := L) fun j _ => by rw [HST.out j, if_neg (by simp [hh])]; rfl)
            clear hm hh
            go_wp2_with (fail)
            go_roundw
            case rel => exact ⟨t + 1, by omega, by go_num, by rw [HE.out]; exact HQx.out, HBx.out⟩
            case measure => simp [RowKit.intOf]; omega
        · obtain rfl : t = T := by omega
          have k1 : decide ((t : Int) + 1 ≤ (t : Int)) = false := decide_eq_false (by omega)
          have HR : Hid (RetC w (cL S D L) true (.returned (.tuple #[.slice (some ⟨g2, 0, none⟩) S S, .bool true])) wr) := Lib.hid (by
            have e : cuL S D L t = cL S D L := by unfold cuL cL; rw [HT.out]
            rw [e] at hq
            have hi := hq.ins
            rw [cL_len] at hi
            exact ⟨some ⟨g2, 0, none⟩, S, by rw [cL_len], by rw [cL_len]; exact hi, (fun x hx => by cases hx; have := HBB.out _ hb; show w.heap.size ≤ g2; omega), HBB.out _ hb⟩)
          clear hu hq hb
          go_wp2_with (fail)
          go_ret2
          exact ⟨_, _, HR.out, hC1.out HA.out⟩
theorem rcount_any (d r s : Int) (a : Option Addr) (n c : Nat) (L : List Int) (w : World) (hk : Ins w a n L) (hn : n ≤ 1000000000000) :
    Calls Try.prog 13 #[gv d r s, .slice a n c] w fun e w' => ∃ l ok, RetC w l ok e w' ∧ CntR d r s L l ok := by
  by_cases h : Rt d r s
  · exact rcount_in d r s a n c L w h hk hn
  · exact (rcount_out d r s a n c w h).mono fun e w' hr => ⟨_, _, hr, (fun x => absurd x h), fun _ => ⟨rfl, rfl⟩⟩
end Go.Proofs.Ytdgjhfghggcfaaa
