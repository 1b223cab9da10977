/-
  The law UsageSum, walked.
-/
import Derived.Test.YtdgjhfghggcfaaaWu5
namespace Go.Proofs.Ytdgjhfghggcfaaa
open Go.RowKit Go.Maps
set_option linter.unusedVariables false

/-- The map in block mb: which of P are there, noughts apart. -/
structure SnD (w : World) (mb T : Nat) (P : List Int) (M : DataW Unit) : Prop where
  own : ∃ c, c ≤ P.length ∧ w.ownsMap Try.prog 3 (plainElem Try.prog 4) mb c M
  size : Maps.size M = dU P T
  has : ∀ a, (Lit.int .i64 a).wf = true → a ≠ 0 → (Maps.has M (.int .i64 a) = true ↔ a ∈ P)
theorem SnD.start {T : Nat} (w : World) : SnD (w.alloc (.map #[] 0)) w.heap.size T [] (.map []) :=
  ⟨⟨0, Nat.le_refl _, World.ownsMap_made w _ _ _⟩, (dU_nil T).symm, fun a _ _ => by simp [Maps.has]⟩
theorem SnD.row {w w' : World} {mb T : Nat} {P : List Int} {M : DataW Unit} (h : SnD w mb T P M) (e : w'.heap[mb]? = w.heap[mb]?) : SnD w' mb T P M := by
  obtain ⟨c, hc, es, clock, hb, r⟩ := h.own
  exact ⟨⟨c, hc, es, clock, e.trans hb, r⟩, h.size, h.has⟩
theorem SnD.lt {w : World} {mb T : Nat} {P : List Int} {M : DataW Unit} (h : SnD w mb T P M) : mb < w.heap.size := by
  obtain ⟨c, _, h⟩ := h.own
  exact h.lt
theorem SnD.below {w w' : World} {mb T : Nat} {P : List Int} {M : DataW Unit} (h : SnD w mb T P M) (hb : Below (mb + 1) w w') : SnD w' mb T P M := h.row (hb.block _ (Nat.lt_succ_self _))
theorem SnD.zero {w : World} {mb T : Nat} {P : List Int} {M : DataW Unit} (h : SnD w mb T P M) : SnD w mb T (P ++ [0]) M := by
  obtain ⟨c, hc, ho⟩ := h.own
  refine ⟨⟨c, by simp; omega, ho⟩, h.size.trans (dU_cg fun i => (has1_zero P i).symm), fun a ha h0 => (h.has a ha h0).trans ?_⟩
  simp [h0]
theorem SnD.put {w w' : World} {mb T m c : Nat} {P : List Int} {M : DataW Unit} (h : SnD w mb T P M) (hm : m < T) (ha : (Lit.int .i64 ((m + 1 : Nat) : Int)).wf = true) (hc : c ≤ P.length)
    (hw : w.ownsMap Try.prog 3 (plainElem Try.prog 4) mb c M) (ho : w'.ownsMap Try.prog 3 (plainElem Try.prog 4) mb (c + 1) (M.put (.int .i64 ((m + 1 : Nat) : Int)) (.lit (.bool true)))) :
    SnD w' mb T (P ++ [((m + 1 : Nat) : Int)]) (M.put (.int .i64 ((m + 1 : Nat) : Int)) (.lit (.bool true))) := by
  have hk : WideAt.IsKeyLit (.int .i64 ((m + 1 : Nat) : Int)) := lawN.key (keyOf_int_mk Try.underlying3 ha)
  have hh := h.has _ ha (by omega)
  refine ⟨⟨c + 1, by simp; omega, ho⟩, ?_, fun b hb h0 => ?_⟩
  · rw [size_put (hw.tidy lawN), h.size]
    by_cases hin : ((m + 1 : Nat) : Int) ∈ P
    · rw [if_pos (hh.2 hin)]
      exact dU_cg fun i => (has1_old hin i).symm
    · have : Maps.has M (.int .i64 ((m + 1 : Nat) : Int)) = false := by
        cases e : Maps.has M (.int .i64 ((m + 1 : Nat) : Int)) with
        | false => rfl
        | true => exact absurd (hh.1 e) hin
      rw [this, dU_new hm hin]
      rfl
  · by_cases e1 : b = ((m + 1 : Nat) : Int)
    · subst e1
      rw [has_put_same hw.isMap hk]
      simp
    · rw [has_put_other (fun x => e1 (by injection x)), h.has b hb h0]
      have : ¬ b = (m : Int) + 1 := fun x => e1 (by omega)
      simp [this]
theorem has1_rev (L : List Int) (i : Nat) : has1 L.reverse i = has1 L i := decide_eq_decide.2 List.mem_reverse
theorem SnD.next {w w' : World} {mb T : Nat} {P : List Int} {M : DataW Unit} (h : SnD w mb T P M) (hb : Below w.heap.size w w') : SnD w' mb T P M := h.row (hb.block _ h.lt)
theorem ownI_turned {w w' : World} {B mb n : Nat} {v : Value} {ks : List Int} (h : OwnI w B v n ks) (ht : w.mapTurned w' mb) (hB : mb < B) : OwnI w' B v n ks := by
  refine World.ownsRow.kept h ht.grown ?_
  cases hv : v.ownBlock with
  | none => exact .inl rfl
  | some g =>
    refine .inr fun e => ?_
    have := (World.ownsRow.lt h g hv).1
    cases e
    omega
theorem ne_map {H : Type} {w w' : World} {k : TypeId} {R : Value → Option (DataW H × List MemPlace)} {mb n b : Nat} {M : DataW H} {p : Nat} {v : Value} (h : w.ownsMap Try.prog k R mb n M) (ht : w.mapTurned w' mb) (hc : w.cell? ⟨b, p, none⟩ = some v) : b ≠ mb := by
  intro e
  subst e
  obtain ⟨es, clock, hb, _⟩ := h
  simp [World.cell?, hb] at hc
theorem turned_cell {w w' : World} {mb b p : Nat} {v : Value} (ht : w.mapTurned w' mb) (hc : w.cell? ⟨b, p, none⟩ = some v) (hne : b ≠ mb) : w'.cell? ⟨b, p, none⟩ = some v :=
  (World.cell?_of_block (a := ⟨b, p, none⟩) (ht.grown.block b (World.block_lt_of_cell? w _ hc) (fun e => hne (by cases e; rfl)))).trans hc
set_option maxRecDepth 100000 in
set_option maxHeartbeats 16000000 in
theorem sums_any (d r s : Int) (a1 : Option Addr) (n1 c1 : Nat) (L : List Int) (w : World) (hL : Ins w a1 n1 L) (hwf : ∀ z ∈ L, (Lit.int .i64 z).wf = true)  :
    Calls Try.prog 5 #[gv d r s, .slice a1 n1 c1] w fun e w' => e = .returned (.bool true) ∧ Below w.heap.size w w' := by
  have x1 := Bx.mk' w d r s 23
  have hb1 : Below w.heap.size w (w.alloc (.cells #[.int .i64 d, .int .i64 r, .int .i64 s] 23 (0, 0))) := (Below.refl _ _).alloc (Nat.le_refl _) _
  have HL := Lib.hid hL
  have HWF := Lib.hid hwf
  have HX1 := Lib.hid x1
  have HB1 := Lib.hid hb1
  clear hL hwf x1 hb1
  go_enter Try.func5, Try.ntmps5
  go_wp2_with (fail)
  refine (alive_any _).mono ?_
  rintro e w2 ⟨rfl, hb⟩
  have x2 := HX1.out.next hb
  have HB2 := Lib.hid (HB1.out.trans (hb.mono HB1.out.size))
  have HX2 := Lib.hid x2
  clear hb x2
  by_cases hn1 : n1 ≤ 5000
  · have hn1' : decide ((5000 : Int) < (n1 : Int)) = false := decide_eq_false (by omega)
    have y0 := HX2.out.c0
    have y1 := HX2.out.c1
    have y2 := HX2.out.c2
    have hcn := count_any d r s a1 n1 c1 L w2 (HL.out.below (Nat.le_refl _) HB2.out) (by omega) HWF.out
    go_wp2_with (fail)
    refine hcn.mono ?_
    clear hcn
    rintro e w3 ⟨l, ok, ⟨a3, c3, he, hi3, hlo3, hb⟩, hc3⟩
    have x3 := HX2.out.next hb
    have HB3 := Lib.hid (HB2.out.trans (hb.mono HB2.out.size))
    have HX3 := Lib.hid x3
    clear y0 y1 y2 x3
    by_cases hok : Rt d r s ∧ AdOk (s.toNat * (PL d r).toNat) L
    · obtain ⟨hR, hA⟩ := hok
      obtain ⟨p1, p2, _, _⟩ := PL_bd hR.d1 hR.d2 hR.r1 hR.r2
      have s1 := hR.s1
      have s2 := hR.s2
      obtain ⟨rfl, rfl⟩ := hc3.1 hR hA
      obtain ⟨S, rfl⟩ := Int.eq_ofNat_of_zero_le (show 0 ≤ s by omega)
      obtain ⟨D, hD⟩ := Int.eq_ofNat_of_zero_le (show 0 ≤ PL d r by omega)
      rw [Int.toNat_natCast, hD, Int.toNat_natCast] at hi3 hA
      have he' : e = .returned (.tuple #[.slice a3 S c3, .bool true]) := by rw [he, Int.toNat_natCast, hD, Int.toNat_natCast, cL_len]
      rw [cL_len] at hi3
      subst he'
      rw [hD] at p1 p2
      have HD := Lib.hid hD
      have HR := Lib.hid hR
      have HA := Lib.hid hA
      have HI3 := Lib.hid hi3
      have HNN : Hid (noneNeg (cL S D L)) := Lib.hid fun k hk => by
        unfold cL at hk
        obtain ⟨j, _, rfl⟩ := List.mem_map.1 hk
        omega
      clear hc3 he hb hR hA hi3 hlo3 hD
      have hle : Hid (∀ k ∈ cL S D L, k ≤ (D : Int)) := Lib.hid (cL_le (by omega) L)
      obtain ⟨T, hT⟩ : ∃ T, T = S * D := ⟨_, rfl⟩
      have HT := Lib.hid hT
      have hlen := HL.out.len
      have hTm : S * D ≤ 64 * 59 := Nat.mul_le_mul (by omega) (by omega)
      rw [← hT] at hTm
      have hA := HA.out
      rw [← hT] at hA
      have HAT := Lib.hid hA
      have HSM : Hid (sumL (cL S D L) = (dU L T : Int)) := Lib.hid (by rw [cL_sum (by omega), hT])
      have HBL := Lib.hid (HL.out.below (Nat.le_refl _) HB3.out)
      have hsz3 : w.heap.size < w3.heap.size := HX3.out.lt
      obtain ⟨mb, hmb⟩ : ∃ mb, mb = w3.heap.size := ⟨_, rfl⟩
      obtain ⟨W, hW⟩ : ∃ W, W = (w3.alloc (.map #[] 0)).alloc (.cells #[] 3) := ⟨_, rfl⟩
      have hWz : W.heap.size = mb + 2 := by rw [hW, hmb]; simp
      have hbW : Below mb w3 W := by rw [hW, hmb]; exact ((Below.refl _ _).alloc (Nat.le_refl _) _).alloc (by simp) _
      have hsn : SnD W mb T [] (.map []) := by
        have h0 := SnD.start (T := T) w3
        rw [← hmb] at h0
        rw [hW]
        refine h0.row (Below.heap_alloc _ _ _ ?_)
        rw [hmb]
        simp
      have hob : OwnI W (mb + 1) (.slice (some ⟨mb + 1, 0, none⟩) 0 0) 0 [] := by
        have := ownI_lit (mb + 1) (w3.alloc (.map #[] 0)) (by rw [hmb]; simp)
        rw [show (w3.alloc (.map #[] 0)).heap.size = mb + 1 by rw [hmb]; simp] at this
        rw [hW]
        exact this
      have hrl : L.reverse.length = n1 := by rw [List.length_reverse]; exact hlen
      have HSN := Lib.hid hsn
      have HOB := Lib.hid hob
      have HBW := Lib.hid hbW
      have hmm := @run_makeMap Try.prog
      have hn0 : IntKind.i64.wrap ((n1 : Int) - 1) = (n1 : Int) - 1 := IntWalk.i64_in _ (by omega)
      clear hT hA hsn hob hbW hlen
      go_wp2_with (fail)
      rw [← hmb, ← hW]
      have HMB := Lib.hid hmb
      have HWZ := Lib.hid hWz
      clear hW hmb hWz
      go_loopw [8, 9] (fun u v wr => ∃ (j : Nat) (M : DataW Unit), j ≤ n1 ∧ v = .int .i64 ((n1 : Int) - 1 - j) ∧ SnD wr mb T (L.reverse.take j) M ∧ OwnI wr (mb + 1) u j (L.reverse.take j) ∧ Below mb w3 wr) (fun _ v _ => (RowKit.intOf v + 1).toNat)
      case atStart => exact ⟨0, _, by omega, by simp, HSN.out, HOB.out, HBW.out⟩
      case round =>
        obtain ⟨j, M, hj, rfl, hs, ho, hb⟩ := hrel
        have HS := Lib.hid hs
        have HO := Lib.hid ho
        have HBk := Lib.hid hb
        have hmw : mb < wr.heap.size := hs.lt
        by_cases hlt : j < n1
        · have k1 : (0 : Int) ≤ (n1 : Int) - 1 - j := by omega
          obtain ⟨i, hi⟩ : ∃ i : Nat, (n1 : Int) - 1 - j = (i : Int) := ⟨n1 - 1 - j, by omega⟩
          have hin : i < n1 := by omega
          have i1 : (i : Int) < (n1 : Int) := by omega
          have i0 : (0 : Int) ≤ (i : Int) := by omega
          rw [hi]
          have hrv : num L.reverse j = num L i := by
            unfold num
            rw [List.getD, List.getD, List.getElem?_reverse (by rw [← List.length_reverse, hrl]; exact hlt), ← List.length_reverse, hrl, show n1 - 1 - j = i by omega]
          have HTK := Lib.hid (take_num (ks := L.reverse) (k := j) (by omega))
          rw [hrv] at HTK
          obtain ⟨b, off, rfl, hbl, hc⟩ := (HBL.out.below (Nat.le_of_eq HMB.out.symm) hb).at (by omega)
          have y := hc i hin
          have hmem : num L i ∈ L := num_mem (by rw [← List.length_reverse, hrl]; exact hin)
          have hwf1 := Lib.hid (HWF.out _ hmem)
          have hA1 := HAT.out _ hmem
          have hnext : IntKind.i64.wrap ((i : Int) - 1) = (n1 : Int) - 1 - ((j + 1 : Nat) : Int) := by rw [IntWalk.i64_in _ (by omega)]; omega
          have HNX : Hid ((i : Int) - 1 = (n1 : Int) - 1 - ((j + 1 : Nat) : Int)) := Lib.hid (by omega)
          have HMS : Hid ((((n1 : Int) - 1 - ((j + 1 : Nat) : Int)) + 1).toNat < (i + 1 : Int).toNat) := Lib.hid (by omega)
          obtain ⟨ua, uc, rfl, _, _, _, _⟩ := ho.ins
          clear hs ho hb hc hmem hrv hi hnext
          obtain ⟨z, hz⟩ : ∃ z, z = num L i := ⟨_, rfl⟩
          rw [← hz] at y HTK hwf1 hA1
          clear hz
          by_cases h0 : z = 0
          · subst h0
            have HS2 : Hid (SnD wr mb T (L.reverse.take (j + 1)) M) := Lib.hid (by rw [HTK.out]; exact HS.out.zero)
            have HO4 := Lib.hid (HO.out.alloc (.cells #[.int .i64 0] 3))
            have HB4 := Lib.hid (((Below.refl (mb + 1) wr)).alloc (by omega) (.cells #[.int .i64 0] 3))
            go_wp2_with (at_builtin; go_must (refine wpList_api rfl (.tmp 49) (.tmp 54) rfl (mb + 1) _ j (L.reverse.take j) rfl HO4.out wr.heap.size 0 rfl (by simp) (by omega) (by simp; omega) wr HB4.out ?_); intro v2 w5 ho5 hb5)
            go_roundw
            case rel => exact ⟨j + 1, M, by omega, by rw [← HNX.out], HS2.out.below hb5, by rw [HTK.out]; exact ho5, HBk.out.trans (hb5.mono (Nat.le_succ _))⟩
            case measure => simp only [RowKit.intOf]; have := HMS.out; have := HNX.out; omega
          · have hzb : (z != 0) = true := by simp [h0]
            obtain ⟨m, hm⟩ : ∃ m : Nat, z = ((m + 1 : Nat) : Int) := ⟨(z - 1).toNat, by omega⟩
            have hmT : m < T := by omega
            obtain ⟨cn, hcn, hown⟩ := HS.out.own
            have HSP : Hid (∀ w', w'.ownsMap Try.prog 3 (plainElem Try.prog 4) mb (cn + 1) (M.put (.int .i64 z) (.lit (.bool true))) → SnD w' mb T (L.reverse.take (j + 1)) (M.put (.int .i64 z) (.lit (.bool true)))) := Lib.hid fun w' ho => by
              have hwf2 := hwf1.out
              rw [HTK.out]
              rw [hm] at ho hwf2 ⊢
              exact HS.out.put hmT hwf2 hcn hown ho
            have HOW := Lib.hid hown
            have hcn2 : cn < 10000 := by rw [List.length_take] at hcn; omega
            have h0' : ¬ z = 0 := h0
            clear h0 hm hown hcn
            go_wp2_with (first
              | (at_mapUpdate; refine wpList_mapUpdate_in _ rfl _ _ _ 34 rfl 3 4 lawN Try.underlying34 _ mb cn M rfl HOW.out (by unfold maxLen; omega) _ _ _ rfl rfl (keyOf_int_mk Try.underlying3 hwf1.out) _ [] (plainElem_bool Try.underlying4 true) ?_; intro w7 hown7 hturn7; have HO7 := Lib.hid hown7; have HT7 := Lib.hid hturn7; have HO8 := Lib.hid (ownI_turned HO.out hturn7 (Nat.lt_succ_self mb)); have q7 := turned_cell hturn7 y (ne_map HOW.out hturn7 y); have hsz7 := hturn7.grown.size; clear hown7 hturn7)
              | (at_builtin; go_must (refine wpList_api rfl (.tmp 49) (.tmp 54) rfl (mb + 1) _ j (L.reverse.take j) rfl (HO8.out.alloc _) w7.heap.size z rfl (by simp) (by omega) (by simp; omega) w7 ((Below.refl (mb + 1) w7).alloc (by omega) _) ?_); intro v2 w9 ho5 hb5)
              | go_in)
            go_roundw
            case rel => exact ⟨j + 1, _, by omega, by rw [← HNX.out], (HSP.out _ HO7.out).below hb5, by rw [HTK.out]; exact ho5, (below_turned HBk.out HT7.out (Nat.le_refl _) (by omega)).trans (hb5.mono (Nat.le_succ _))⟩
            case measure => simp only [RowKit.intOf]; have := HMS.out; have := HNX.out; omega
        · obtain rfl : j = n1 := by omega
          have k1 : decide ((0 : Int) ≤ (j : Int) - 1 - (j : Int)) = false := decide_eq_false (by omega)
          have hw1 : IntKind.i64.wrap ((j : Int) - 1 - (j : Int)) = (j : Int) - 1 - (j : Int) := IntWalk.i64_in _ (by omega)
          have hful : L.reverse.take j = L.reverse := List.take_of_length_le (by omega)
          rw [hful] at HS HO
          have hx := HX3.out.below hb (Nat.le_of_eq HMB.out.symm)
          have HX := Lib.hid hx
          obtain ⟨ua, uc, rfl, hiu, _, _, _⟩ := ho.ins
          rw [hful] at hiu
          have HIU := Lib.hid hiu
          have hi3 := Lib.hid (HI3.out.below (Nat.le_of_eq HMB.out.symm) hb)
          have HBX := Lib.hid (HB3.out.trans (hb.mono (by have := HMB.out; omega)))
          have HMSZ := Lib.hid HS.out.size
          rw [show (j : Int) - 1 - (j : Int) = -1 by omega]
          obtain ⟨ks, hks⟩ : ∃ ks, ks = cL S D L := ⟨_, rfl⟩
          have HKS := Lib.hid hks
          rw [← hks] at hi3 hle HNN HSM
          have hkl : ks.length = S := by rw [hks, cL_len]
          clear hs ho hb hiu hx hw1 k1 hks
          go_wp2_with (fail)
          go_loopw [10, 11] (fun u v wx => ∃ k : Nat, k ≤ S ∧ v = .int .i64 k ∧ u = .int .i64 (sumL (ks.take k)) ∧ Below wr.heap.size wr wx) (fun _ v _ => S - (RowKit.intOf v).toNat)
          case atStart => exact ⟨0, by omega, rfl, by simp [sumL], Below.refl _ _⟩
          case round =>
            obtain ⟨k, hkS, rfl, rfl, hb⟩ := hrel
            have hsb := sum_bd (M := 59) (ks := ks) (fun x hx => ⟨HNN.out x hx, by have := hle.out x hx; omega⟩) k
            have k0 : (0 : Int) ≤ (k : Int) := by omega
            by_cases hlt2 : k < S
            · have k1 : (k : Int) < (S : Int) := by omega
              obtain ⟨b, off, rfl, hbl, hc⟩ := (hi3.out.next hb).at (by omega)
              have y := hc k hlt2
              have hm := num_mem (ks := ks) (i := k) (by omega)
              have hn0 := HNN.out _ hm
              have hn1 := hle.out _ hm
              have HST := Lib.hid (sumL_take (ks := ks) (k := k) (by omega))
              have x8 := (HX.out.next hb).drew
              obtain ⟨al, hal⟩ : ∃ al, al = sumL (ks.take k) := ⟨_, rfl⟩
              rw [← hal] at hsb HST ⊢
              obtain ⟨z, hz⟩ : ∃ z, z = num ks k := ⟨_, rfl⟩
              rw [← hz] at y hn0 hn1 HST
              have z1 : decide (z < 0) = false := decide_eq_false (by omega)
              have z2 : decide ((D : Int) < z) = false := decide_eq_false (by omega)
              have HBk2 := Lib.hid hb
              have HY := Lib.hid y
              have HBL := Lib.hid hbl
              clear hc hm hal hz hb
              go_wp2_with (fail)
              refine wp_region_held_drew (S := (fun w' => (w'.cell? ⟨w.heap.size, 0, none⟩ = some (.int .i64 d) ∧ w'.cell? ⟨w.heap.size, 1, none⟩ = some (.int .i64 r) ∧ w'.cell? ⟨w.heap.size, 2, none⟩ = some (.int .i64 (S : Int))) ∧ w'.cell? ⟨b, off + k, none⟩ = some (.int .i64 z))) (by kernel_rfl) ?_ (fun hHeld => ?_)
              · exact ⟨⟨x8.c0, x8.c1, x8.c2⟩, HY.out⟩
              refine wpAnyH_take (i := 0) (v := ?_) rfl (by kernel_rfl) (by kernel_rfl) (by kernel_rfl) (fun _ _ _ h => h) (Or.inl ⟨by rfl, fun w hSw => ?_⟩) (by assumption) ?_
              rotate_left
              · (try dsimp only at hSw); go_simp; try with_reducible rfl
              simp only [Act.put, List.setIfInBounds_toArray, List.set_cons_zero, List.set_cons_succ, List.getElem_toArray, List.getElem_cons_zero]
              refine wpAnyH_take (i := 1) (v := ?_) rfl (by kernel_rfl) (by kernel_rfl) (by kernel_rfl) (fun _ _ _ h => h) (Or.inl ⟨by rfl, fun w hSw => ?_⟩) (by assumption) ?_
              rotate_left
              · (try dsimp only at hSw); go_simp; try with_reducible rfl
              simp only [Act.put, List.setIfInBounds_toArray, List.set_cons_zero, List.set_cons_succ, List.getElem_toArray, List.getElem_cons_succ, List.getElem_cons_zero]
              refine wpAnyH_take (i := 2) (v := ?_) rfl (by kernel_rfl) (by kernel_rfl) (by kernel_rfl) (fun _ _ _ h => h) (Or.inl ⟨by rfl, fun w hSw => ?_⟩) (by assumption) ?_
              rotate_left
              · (try dsimp only at hSw); go_simp; try with_reducible rfl
              simp only [Act.put, List.setIfInBounds_toArray, List.set_cons_zero, List.set_cons_succ, List.getElem_toArray, List.getElem_cons_succ, List.getElem_cons_zero]
              refine wpAnyH_take (i := 3) (v := ?_) rfl (by kernel_rfl) (by kernel_rfl) (by kernel_rfl) (fun _ _ _ h => h) (Or.inl ⟨by rfl, fun w hSw => ?_⟩) (by assumption) ?_
              rotate_left
              · (try dsimp only at hSw); go_simp; try with_reducible rfl
              simp only [Act.put, List.setIfInBounds_toArray, List.set_cons_zero, List.set_cons_succ, List.getElem_toArray, List.getElem_cons_succ, List.getElem_cons_zero]
              refine wpAnyH_take (i := 4) (v := ?_) rfl (by kernel_rfl) (by kernel_rfl) (by kernel_rfl) (fun _ _ _ h => h) (Or.inl ⟨by rfl, fun w hSw => ?_⟩) (by assumption) ?_
              rotate_left
              · (try dsimp only at hSw); go_simp; try with_reducible rfl
              simp only [Act.put, List.setIfInBounds_toArray, List.set_cons_zero, List.set_cons_succ, List.getElem_toArray, List.getElem_cons_succ, List.getElem_cons_zero]
              refine wpAnyH_take (i := 5) (v := ?_) rfl (by kernel_rfl) (by kernel_rfl) (by kernel_rfl) (fun _ _ _ h => h) (Or.inl ⟨by rfl, fun w hSw => ?_⟩) (by assumption) ?_
              rotate_left
              · (try dsimp only at hSw); go_simp; try with_reducible rfl
              simp only [Act.put, List.setIfInBounds_toArray, List.set_cons_zero, List.set_cons_succ, List.getElem_toArray, List.getElem_cons_succ, List.getElem_cons_zero]
              refine wpAnyH_take (i := 6) (v := ?_) rfl (by kernel_rfl) (by kernel_rfl) (by kernel_rfl) (fun _ _ _ h => h) (Or.inl ⟨by rfl, fun w hSw => ?_⟩) (by assumption) ?_
              rotate_left
              · (try dsimp only at hSw); go_simp; try with_reducible rfl
              simp only [Act.put, List.setIfInBounds_toArray, List.set_cons_zero, List.set_cons_succ, List.getElem_toArray, List.getElem_cons_succ, List.getElem_cons_zero]
              refine wpAnyH_take (i := 7) (v := ?_) rfl (by kernel_rfl) (by kernel_rfl) (by kernel_rfl) (fun _ _ _ h => h) (Or.inl ⟨by rfl, fun w hSw => ?_⟩) (by assumption) ?_
              rotate_left
              · (try dsimp only at hSw); go_simp; try with_reducible rfl
              simp only [Act.put, List.setIfInBounds_toArray, List.set_cons_zero, List.set_cons_succ, List.getElem_toArray, List.getElem_cons_succ, List.getElem_cons_zero]
              refine wpAnyH_take (i := 8) (v := ?_) rfl (by kernel_rfl) (by kernel_rfl) (by kernel_rfl) (fun _ _ _ h => h) (Or.inl ⟨by rfl, fun w hSw => ?_⟩) (by assumption) ?_
              rotate_left
              · (try dsimp only at hSw); go_simp; try with_reducible rfl
              simp only [Act.put, List.setIfInBounds_toArray, List.set_cons_zero, List.set_cons_succ, List.getElem_toArray, List.getElem_cons_succ, List.getElem_cons_zero]
              refine wpAnyH_take (i := 9) (v := ?_) rfl (by kernel_rfl) (by kernel_rfl) (by kernel_rfl) (fun _ _ _ h => h) (Or.inl ⟨by rfl, fun w hSw => ?_⟩) (by assumption) ?_
              rotate_left
              · (try dsimp only at hSw); go_simp; try with_reducible rfl
              simp only [Act.put, List.setIfInBounds_toArray, List.set_cons_zero, List.set_cons_succ, List.getElem_toArray, List.getElem_cons_succ, List.getElem_cons_zero]
              refine wpAnyH_take (i := 10) (v := ?_) rfl (by kernel_rfl) (by kernel_rfl) (by kernel_rfl) (fun _ _ _ h => h) (Or.inl ⟨by rfl, fun w hSw => ?_⟩) (by assumption) ?_
              rotate_left
              · (try dsimp only at hSw); go_simp; try with_reducible rfl
              simp only [Act.put, List.setIfInBounds_toArray, List.set_cons_zero, List.set_cons_succ, List.getElem_toArray, List.getElem_cons_succ, List.getElem_cons_zero]
              have hpl := places_yes d r S (wr.drew) HR.out
              rw [HD.out] at hpl
              refine wpAnyH_ready (rs := [11]) (by kernel_rfl) (by simp) ?_
              refine AllReadyH.cons rfl (fun K hK => ?_) AllReadyH.nil
              simp only [List.getElem_toArray, List.getElem_cons_succ, List.getElem_cons_zero]
              go_simp
              refine hpl.mono ?_
              clear hpl
              rintro e w9 ⟨rfl, hb⟩
              have x9 := x8.next hb
              have y9 := (hb.cell (p := ⟨b, off + k, none⟩) HBL.out).trans HY.out
              have HB9 := Lib.hid (HBk2.out.drew.trans (hb.mono HBk2.out.size))
              clear hb
              go_wp2_with (fail)
              refine hK.out _ _ ⟨⟨x9.c0, x9.c1, x9.c2⟩, y9⟩ (fun hHeld => ?_)
              clear hK K
              refine wpAnyH_take (i := 12) (v := ?_) rfl (by kernel_rfl) (by kernel_rfl) (by kernel_rfl) (fun _ _ _ h => h) (Or.inl ⟨by rfl, fun w hSw => ?_⟩) (by assumption) ?_
              rotate_left
              · (try dsimp only at hSw); go_simp; try with_reducible rfl
              simp only [Act.put, List.setIfInBounds_toArray, List.set_cons_zero, List.set_cons_succ, List.getElem_toArray, List.getElem_cons_succ, List.getElem_cons_zero]
              refine wpAnyH_take (i := 13) (v := ?_) rfl (by kernel_rfl) (by kernel_rfl) (by kernel_rfl) (fun _ _ _ h => h) (Or.inl ⟨by rfl, fun w hSw => ?_⟩) (by assumption) ?_
              rotate_left
              · (try dsimp only at hSw); go_simp; try with_reducible rfl
              simp only [Act.put, List.setIfInBounds_toArray, List.set_cons_zero, List.set_cons_succ, List.getElem_toArray, List.getElem_cons_succ, List.getElem_cons_zero]
              refine wpAnyH_done (by kernel_rfl) ?_ _
              clear x8 x9 HX
              go_wp2_with (fail)
              go_roundw
              case rel => exact ⟨k + 1, by omega, by go_num, by rw [HST.out], HB9.out⟩
              case measure => simp [RowKit.intOf]; omega
            · obtain rfl : k = S := by omega
              have k1 : decide ((k : Int) < (k : Int)) = false := decide_eq_false (by omega)
              have hfk : ks.take k = ks := List.take_of_length_le (by omega)
              rw [hfk, HSM.out]
              have HXk := Lib.hid (HX.out.next hb)
              have y0 := HXk.out.c0
              have y1 := HXk.out.c1
              have y2 := HXk.out.c2
              have HBk2 := Lib.hid hb
              have hiu2 := HIU.out.next hb
              have hcn := count_any d r k ua j uc L.reverse wr hiu2 (by omega) (fun z hz => HWF.out z (List.mem_reverse.1 hz))
              clear hsb hfk hb hiu2
              go_wp2_with (fail)
              refine hcn.mono ?_
              clear hcn
              rintro e w8 ⟨l2, ok2, ⟨a8, c8, he, hi8, hlo8, hb⟩, hc8⟩
              have hAA : AdOk ((k : Int).toNat * (PL d r).toNat) L.reverse := by
                rw [Int.toNat_natCast, HD.out, Int.toNat_natCast]
                exact fun z hz => HA.out z (List.mem_reverse.1 hz)
              obtain ⟨hl2, rfl⟩ := hc8.1 HR.out hAA
              rw [Int.toNat_natCast, HD.out, Int.toNat_natCast] at hl2
              have hl3 : l2 = ks := by
                rw [hl2, HKS.out]
                unfold cL
                refine List.map_congr_left fun s _ => ?_
                rw [cU_cg (L := L.reverse) (M := L) fun i => has1_rev L i]
              subst hl3
              rw [hkl] at he
              subst he
              have hsame := sameInts_yes a3 a8 k c3 c8 l2 w8 ((hi3.out.next HBk2.out).next hb) (by rw [hkl] at hi8; exact hi8) (by omega)
              have HS8 := Lib.hid ((HS.out.next HBk2.out).next hb)
              have HB8 := Lib.hid (HBX.out.trans ((HBk2.out.trans (hb.mono HBk2.out.size)).mono HBX.out.size))
              obtain ⟨dn, hdn⟩ : ∃ dn, dn = dU L T := ⟨_, rfl⟩
              have hsize : Maps.size M = dn := by
                rw [HMSZ.out, hdn]
                exact dU_cg fun i => has1_rev L i
              rw [← hdn]
              obtain ⟨cn, _, hown⟩ := HS8.out.own
              have HOW := Lib.hid hown
              clear hb hi8 hlo8 hc8 hAA hl2 hdn hown y0 y1 y2
              go_wp2_with (at_len; refine wpList_len_own _ rfl _ 34 rfl 3 4 Try.underlying34 _ mb cn M rfl HOW.out ?_; rw [hsize])
              refine hsame.mono ?_
              clear hsame
              rintro e w9 ⟨rfl, hb⟩
              have HB9 := Lib.hid (HB8.out.trans (hb.mono HB8.out.size))
              clear hb
              go_wp2_with (fail)
              go_ret
              exact ⟨rfl, HB9.out⟩
    · obtain ⟨rfl, rfl⟩ := hc3.2 hok
      have he' : e = .returned (.tuple #[.slice a3 0 c3, .bool false]) := he
      subst he'
      clear hok he hi3 hlo3 hb hc3
      go_wp2_with (fail)
      go_ret
      exact ⟨rfl, HB3.out⟩
  · have hn1' : decide ((5000 : Int) < (n1 : Int)) = true := decide_eq_true (by omega)
    go_wp2_with (fail)
    go_ret
    exact ⟨rfl, HB2.out⟩
end Go.Proofs.Ytdgjhfghggcfaaa
