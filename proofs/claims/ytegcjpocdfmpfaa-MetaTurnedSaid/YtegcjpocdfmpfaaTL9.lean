/-
  MetaTurned, by contract.
-/
import Derived.Test.YtegcjpocdfmpfaaTau
import Derived.Test.YtegcjpocdfmpfaaTal
import Derived.Test.YtegcjpocdfmpfaaTam
import Derived.Test.YtegcjpocdfmpfaaTas
import Derived.Test.YtegcjpocdfmpfaaTav
import Derived.Test.YtegcjpocdfmpfaaTac
set_option linter.unusedVariables false
set_option linter.unusedSimpArgs false
set_option maxRecDepth 100000
set_option maxHeartbeats 16000000
namespace Go.Proofs.Ytegcjpocdfmpfaa
open Go.RowKit

def xr (a b : Int) : Int := ((a.toNat ^^^ b.toNat : Nat) : Int)
theorem xr_bd {a b : Int} (ha : 0 ≤ a ∧ a ≤ 255) (hb : 0 ≤ b ∧ b ≤ 255) : 0 ≤ xr a b ∧ xr a b ≤ 255 := by
  have : a.toNat ^^^ b.toNat < 2 ^ 8 := Nat.xor_lt_two_pow (by omega) (by omega)
  unfold xr
  omega
theorem u8_xr {a b : Int} (ha : 0 ≤ a ∧ a ≤ 255) (hb : 0 ≤ b ∧ b ≤ 255) : bits .xor .u8 a b = xr a b := u8_xor a b ha.1 (by omega) hb.1 (by omega)
theorem xr_ne {a b : Int} (ha : 0 ≤ a) (hb : 0 ≤ b) (h : b ≠ 0) : xr a b ≠ a := fun e => by
  unfold xr at e
  have h1 : a.toNat ^^^ b.toNat = a.toNat := by omega
  have h2 : a.toNat ^^^ (a.toNat ^^^ b.toNat) = b.toNat := by rw [← Nat.xor_assoc, Nat.xor_self, Nat.zero_xor]
  rw [h1, Nat.xor_self] at h2
  omega
theorem poke_other {w : World} {a p : Addr} {v u : Value} (h1 : w.cell? a = some v) (h2 : w.cell? p = some u) (hne : v ≠ u) (z : Value) : (w.setCell a z).cell? p = some u := by
  rw [World.cell?_setCell_other _ _ _ _ (fun e => hne (by rw [← e, h1] at h2; exact Option.some.inj h2))]
  exact h2
/-- The very piece that a byte is stored in. -/
theorem Pin.poked {w : World} {b2 o2 n c : Nat} {zs : List Int} (h : Pin w (some ⟨b2, o2, none⟩) n c zs) {p : Nat} (hp : p < n) {z : Int} (hz : 0 ≤ z ∧ z ≤ 255) : Pin (w.setCell ⟨b2, o2 + p, none⟩ (.int .u8 z)) (some ⟨b2, o2, none⟩) n c (zs.set p z) := by
  obtain ⟨b3, o3, e, hlt, hc⟩ := h.at (by omega)
  cases e
  refine ⟨⟨by simp [h.bys.len], fun y hy => ?_, .inr ⟨b2, o2, rfl, by simp [World.setCell]; exact hlt, fun i hi => ?_⟩⟩, h.nil, h.cap, h.max⟩
  · rcases List.mem_or_eq_of_mem_set hy with h3 | rfl
    · exact h.bys.small y h3
    · exact hz
  · rw [byt_set (by rw [h.bys.len]; omega)]
    by_cases e : i = p
    · subst e
      rw [if_pos rfl]
      exact World.cell?_setCell_same _ _ _ (hc i hi)
    · rw [if_neg e, World.cell?_setCell_other _ _ _ _ (by simp; try omega)]
      exact hc i hi
/-- A byte stored leaves a piece of bytes one. -/
theorem Pin.poke {w : World} {a : Option Addr} {n c : Nat} {zs : List Int} (h : Pin w a n c zs) (b o : Nat) {z : Int} (hz : 0 ≤ z ∧ z ≤ 255) : ∃ zs', Pin (w.setCell ⟨b, o, none⟩ (.int .u8 z)) a n c zs' := by
  rcases h.bys.place with h0 | ⟨b2, o2, rfl, hlt, hc⟩
  · exact ⟨zs, ⟨⟨h.bys.len, h.bys.small, .inl h0⟩, h.nil, h.cap, h.max⟩⟩
  by_cases hin : b2 = b ∧ o2 ≤ o ∧ o < o2 + n
  · obtain ⟨rfl, h1, h2⟩ := hin
    have := h.poked (p := o - o2) (by omega) hz
    rw [show o2 + (o - o2) = o by omega] at this
    exact ⟨_, this⟩
  · refine ⟨zs, ⟨⟨h.bys.len, h.bys.small, .inr ⟨b2, o2, rfl, by simp [World.setCell]; exact hlt, fun i hi => ?_⟩⟩, h.nil, h.cap, h.max⟩⟩
    rw [World.cell?_setCell_other _ _ _ _ (by simp; try omega)]
    exact hc i hi
theorem wf_u8 {n : Int} (h : (Lit.int .u8 n).wf = true) : 0 ≤ n ∧ n ≤ 255 := by
  simp [Lit.wf, IntKind.min, IntKind.max, IntKind.signed, IntKind.bits] at h
  omega
theorem noughtB_byt {zs : List Int} (h : noughtB zs = true) (j : Nat) : byt zs j = 0 := by
  by_cases hj : j < zs.length
  · by_cases e : byt zs j = 0
    · exact e
    · rw [noughtB_false hj e] at h; cases h
  · simp [byt, List.getD, List.getElem?_eq_none (Nat.le_of_not_lt hj)]
/-- A root of which a byte is turned that tells no chart. -/
theorem rtB_turn {x y : Int} (hx : 0 ≤ x ∧ x ≤ 65535) (hy : 0 ≤ y ∧ y ≤ 65535) {p : Nat} (hp : p < 56) (hn : p < 2 ∨ 6 ≤ p) {z : Int} (hne : z ≠ byt (rtB x y) p) :
    ¬ (getV ((rtB x y).set p z).length ((rtB x y).set p z) 0 2 = 21074 ∧ noughtB (((rtB x y).set p z).drop 6) = true) := by
  rintro ⟨h1, h2⟩
  obtain ⟨g1, _, _, g4⟩ := rtB_get hx hy
  have hl := rtB_len x y
  have hls : ((rtB x y).set p z).length = 56 := by simp [hl]
  have hb : ∀ j, byt ((rtB x y).set p z) j = if j = p then z else byt (rtB x y) j := byt_set (by rw [hl]; exact hp) z
  rcases hn with hn | h6
  · have e0 : ((0 : Nat) : Int) = 0 := rfl
    have e2 : ((2 : Nat) : Int) = 2 := rfl
    have f1 := getV_in (x := (rtB x y).set p z) (p := 0) (m := 2) (by omega) (by omega) (by rw [hls]; omega)
    have f2 := getV_in (x := rtB x y) (p := 0) (m := 2) (by omega) (by omega) (by rw [hl]; omega)
    rw [e0, e2] at f1 f2
    rw [f1] at h1
    rw [f2] at g1
    simp only [getN, hb, Nat.zero_add] at h1 g1
    have h01 : p = 0 ∨ p = 1 := by omega
    rcases h01 with rfl | rfl
    · simp at h1
      omega
    · simp at h1
      omega
  · have h4 := noughtB_byt g4 (p - 6)
    have h5 := noughtB_byt h2 (p - 6)
    rw [byt_drop, show 6 + (p - 6) = p by omega] at h4 h5
    rw [hb, if_pos rfl] at h5
    omega
theorem layB_root (at' : Nat → Int) (f : Nat → Nd) (n : Nat) {C : Nat} (hC : C = off at' f n + 3) : (layB at' f n).getD (C - 1) default = ⟨0, 0, rtB (at' (off at' f n)) (at' (off at' f n + 1))⟩ := by
  subst hC
  have : (layB at' f n)[off at' f n + 3 - 1]? = some ⟨0, 0, rtB (at' (off at' f n)) (at' (off at' f n + 1))⟩ := by
    unfold layB
    rw [List.getElem?_append_right (by unfold off; omega)]
    rw [show off at' f n + 3 - 1 - (lB at' f n).length = 2 by unfold off; omega]
    rfl
  rw [List.getD, this]
  rfl
/-- Pieces after a byte has been stored in one of them. -/
theorem pokes {w : World} {gs : List Bl} (hp : ∀ x, x ∈ gs → Pin w x.a x.n x.c x.z) {m by' oy p : Nat} (hm : m < gs.length) (ha : gs[m].a = some ⟨by', oy, none⟩) (hpn : p < gs[m].n) {z : Int} (hz : 0 ≤ z ∧ z ≤ 255) :
    ∃ P : Nat → Pc, (∀ j (hj : j < gs.length), pcV (P j) = .slice gs[j].a gs[j].n gs[j].c ∧ (P j).n = gs[j].n ∧ Pin (w.setCell ⟨by', oy + p, none⟩ (.int .u8 z)) (P j).a (P j).n (P j).c (P j).zs) ∧ (P m).zs = gs[m].z.set p z := by
  have h : ∀ j, ∃ q : Pc, (∀ (hj : j < gs.length), pcV q = .slice gs[j].a gs[j].n gs[j].c ∧ q.n = gs[j].n ∧ Pin (w.setCell ⟨by', oy + p, none⟩ (.int .u8 z)) q.a q.n q.c q.zs) ∧ (j = m → q.zs = gs[m].z.set p z) := by
    intro j
    by_cases hj : j < gs.length
    · by_cases e : j = m
      · subst e
        have h1 := hp _ (List.getElem_mem hj)
        rw [ha] at h1
        refine ⟨⟨gs[j].a, gs[j].n, gs[j].c, gs[j].z.set p z⟩, fun hj => ⟨rfl, rfl, ?_⟩, fun _ => rfl⟩
        show Pin _ gs[j].a gs[j].n gs[j].c _
        rw [ha]
        exact h1.poked hpn hz
      · obtain ⟨zs', h1⟩ := (hp _ (List.getElem_mem hj)).poke by' (oy + p) hz
        exact ⟨⟨gs[j].a, gs[j].n, gs[j].c, zs'⟩, fun hj => ⟨rfl, rfl, h1⟩, fun e2 => (e e2).elim⟩
    · exact ⟨default, fun hj2 => (hj hj2).elim, fun e => (hj (by rw [e]; exact hm)).elim⟩
  refine ⟨fun j => Classical.choose (h j), fun j hj => (Classical.choose_spec (h j)).1 hj, (Classical.choose_spec (h m)).2 rfl⟩
theorem metaTurned_lo (d r s : Int) (a : Option Addr) (n c : Nat) (f : Nat → Nw) (p t : Int) (w : World) (hl : NwsAt w a n f) (ht : 0 ≤ t ∧ t ≤ 255) (h26 : p < 2) :
    Calls Try.prog 6 #[gv d r s, .slice a n c, .int .i64 p, .int .u8 t] w fun e w' => e = .returned (.bool true) ∧ Below w.heap.size w w' := by
  have hx := Bx.mk' w d r s 23
  have hB : Below w.heap.size w (w.alloc (.cells #[.int .i64 d, .int .i64 r, .int .i64 s] 23 (0, 0))) := (Below.refl _ _).alloc (Nat.le_refl _) _
  obtain ⟨w1, hw1⟩ : ∃ w1, w1 = w.alloc (.cells #[.int .i64 d, .int .i64 r, .int .i64 s] 23 (0, 0)) := ⟨_, rfl⟩
  rw [← hw1] at hx hB
  have HX := Lib.hid hx
  have HB := Lib.hid hB
  have HL := Lib.hid hl
  have HW := Lib.hid hw1
  have HT0 := Lib.hid ht
  have H26 := Lib.hid h26
  clear hx hB hl hw1 ht h26
  go_enter Try.func6, Try.ntmps6
  go_wp2_with (fail)
  rw [← HW.out]
  obtain ⟨g, hg⟩ : ∃ g, g = w.heap.size := ⟨_, rfl⟩
  rw [← hg] at HX
  have HG := Lib.hid hg
  rw [← hg]
  clear hg
  refine (alive_any w1).mono ?_
  rintro e w2 ⟨rfl, hb2⟩
  go_wp2_with (fail)
  refine (great_any a n c f w2 (HL.out.next (HB.out.trans (hb2.mono HB.out.size)))).mono ?_
  rintro e w3 ⟨gb, rfl, hgb, hb3⟩
  have h23 := hb2.trans (hb3.mono hb2.size)
  have HX3 := Lib.hid (HX.out.next h23)
  have HB3 := Lib.hid (HB.out.trans (h23.mono HB.out.size))
  have HL3 := Lib.hid (HL.out.next HB3.out)
  clear h23 hb2 hb3 HX HB
  cases gb with
  | true =>
    go_wp2_with (fail)
    go_ret
    exact ⟨rfl, HB3.out⟩
  | false =>
    have hn := hgb rfl
    clear hgb
    have c0 := HX3.out.c0
    have c1 := HX3.out.c1
    have c2 := HX3.out.c2
    go_wp2_with (fail)
    refine (pmr_any d r s a n c f w3 HL3.out (by omega)).mono ?_
    rintro e w4 ⟨rfl, hb4⟩
    have HX4 := Lib.hid (HX3.out.next hb4)
    have HB4 := Lib.hid (HB3.out.trans (hb4.mono HB3.out.size))
    have HL4 := Lib.hid (HL.out.next HB4.out)
    clear hb4 HX3 HB3 HL3 c0 c1 c2
    have c0 := HX4.out.c0
    have c1 := HX4.out.c1
    have c2 := HX4.out.c2
    cases hr : mrO d r s (lnL f n) with
    | false =>
      go_wp2_with (fail)
      go_ret
      exact ⟨rfl, HB4.out⟩
    | true =>
      have h26 := H26.out
      by_cases hp0 : p < 0
      · have q1 : ¬ 56 ≤ p := by omega
        go_wp2_with (fail)
        go_ret
        exact ⟨rfl, HB4.out⟩
      by_cases hp1 : 56 ≤ p
      · go_wp2_with (fail)
        go_ret
        exact ⟨rfl, HB4.out⟩
      have q2 : ¬ 2 ≤ p := by omega
      by_cases ht0 : t = 0
      · subst ht0
        go_wp2_with (fail)
        go_ret
        exact ⟨rfl, HB4.out⟩
      have d3 : (t == 0) = false := by simpa using ht0
      have HT00 := Lib.hid ht0
      have HPB := Lib.hid (show 0 ≤ p ∧ p < 56 ∧ (p < 2 ∨ 6 ≤ p) by omega)
      clear ht0
      have HR := Lib.hid hr
      clear hr
      have hrt := (mr_few HR.out).1
      have hbd := adN_bd hrt
      have hfew := (mr_few HR.out).2.2
      have hnl : needN (ndF' f) n ≤ 1656 * n := need_le fun i hi => hfew i hi
      have hcn := cnt_is HR.out
      obtain ⟨C, hC⟩ : ∃ C : Nat, C = n + 3 + needN (ndF' f) n := ⟨_, rfl⟩
      rw [← hC] at hcn
      have HC := Lib.hid hC
      have HCN := Lib.hid hcn
      have HRT := Lib.hid hrt
      have HBD := Lib.hid hbd
      have hC6 : C ≤ 200000 := by omega
      clear hfew hnl hrt hbd hC hcn
      go_wp2_with (fail)
      refine (pcount_any d r s a n c f w4 HL4.out (by omega)).mono ?_
      rintro e w5 ⟨rfl, hb5⟩
      rw [HCN.out]
      have HX5 := Lib.hid (HX4.out.next hb5)
      have HB5 := Lib.hid (HB4.out.trans (hb5.mono HB4.out.size))
      have HL5 := Lib.hid (HL.out.next HB5.out)
      clear hb5 HX4 HB4 HL4 c0 c1 c2
      have c0 := HX5.out.c0
      have c1 := HX5.out.c1
      have c2 := HX5.out.c2
      obtain ⟨N, hNe⟩ : ∃ N, N = adN d r s := ⟨_, rfl⟩
      have hm : IntKind.i64.wrap (s * PL d r) = N := by rw [hNe]; exact IntWalk.i64_in _ (by have := HBD.out; unfold adN at this; omega)
      have HNE := Lib.hid hNe
      have HM := Lib.hid hm
      have HNB : Hid (12 ≤ N ∧ N ≤ 3776) := Lib.hid (by rw [hNe]; exact HBD.out)
      clear hNe hm
      go_upto_region 6 with fail
      refine wp_region_held_drew (S := (fun w' => w'.cell? ⟨g, 0, none⟩ = some (.int .i64 d) ∧ w'.cell? ⟨g, 1, none⟩ = some (.int .i64 r) ∧ w'.cell? ⟨g, 2, none⟩ = some (.int .i64 s))) (by kernel_rfl) ?_ (fun hHeld => ?_)
      · exact ⟨c0, c1, c2⟩
      refine wpAnyH_take (i := 0) (v := ?_) rfl (by kernel_rfl) (by kernel_rfl) (by kernel_rfl) (fun _ _ _ h => h) (Or.inl ⟨by rfl, fun w hSw => ?_⟩) (by assumption) ?_
      rotate_left
      · (try dsimp only at hSw); go_simp; try with_reducible rfl
      simp only [Act.put, List.setIfInBounds_toArray, List.set_cons_zero, List.set_cons_succ, List.getElem_toArray, List.getElem_cons_zero]
      refine wpAnyH_take (i := 1) (v := ?_) rfl (by kernel_rfl) (by kernel_rfl) (by kernel_rfl) (fun _ _ _ h => h) (Or.inl ⟨by rfl, fun w hSw => ?_⟩) (by assumption) ?_
      rotate_left
      · (try dsimp only at hSw); go_simp; try with_reducible rfl
      simp only [Act.put, List.setIfInBounds_toArray, List.set_cons_zero, List.set_cons_succ, List.getElem_toArray, List.getElem_cons_succ, List.getElem_cons_zero]
      refine wpAnyH_take (i := 2) (v := ?_) rfl (by kernel_rfl) (by kernel_rfl) (by kernel_rfl) (fun _ _ _ h => h) (Or.inl ⟨by rfl, fun w hSw => ?_⟩) (by assumption) ?_
      rotate_left
      · (try dsimp only at hSw); go_simp; try with_reducible rfl
      simp only [Act.put, List.setIfInBounds_toArray, List.set_cons_zero, List.set_cons_succ, List.getElem_toArray, List.getElem_cons_succ, List.getElem_cons_zero]
      refine wpAnyH_take (i := 3) (v := ?_) rfl (by kernel_rfl) (by kernel_rfl) (by kernel_rfl) (fun _ _ _ h => h) (Or.inl ⟨by rfl, fun w hSw => ?_⟩) (by assumption) ?_
      rotate_left
      · (try dsimp only at hSw); go_simp; try with_reducible rfl
      simp only [Act.put, List.setIfInBounds_toArray, List.set_cons_zero, List.set_cons_succ, List.getElem_toArray, List.getElem_cons_succ, List.getElem_cons_zero]
      refine wpAnyH_ready (rs := [4]) (by kernel_rfl) (by simp) ?_
      refine AllReadyH.cons rfl (fun K hK => ?_) AllReadyH.nil
      simp only [List.getElem_toArray, List.getElem_cons_succ, List.getElem_cons_zero]
      go_simp
      refine (places_yes d r s _ HRT.out).mono ?_
      rintro e w6 ⟨rfl, hb6⟩
      have HX6 := Lib.hid (HX5.out.drew.next hb6)
      have HB6 := Lib.hid (HB5.out.trans ((below_drewN (Below.refl _ _) 1).trans (hb6.mono (Nat.le_refl _)) |>.mono HB5.out.size))
      have w3 := HM.out
      clear hb6
      go_wp2_with (fail)
      refine hK.out _ _ ⟨HX6.out.c0, HX6.out.c1, HX6.out.c2⟩ (fun hHeld => ?_)
      clear hK K
      refine wpAnyH_take (i := 5) (v := ?_) rfl (by kernel_rfl) (by kernel_rfl) (by kernel_rfl) (fun _ _ _ h => h) (Or.inl ⟨by rfl, fun w hSw => ?_⟩) (by assumption) ?_
      rotate_left
      · (try dsimp only at hSw); go_simp; try with_reducible rfl
      simp only [Act.put, List.setIfInBounds_toArray, List.set_cons_zero, List.set_cons_succ, List.getElem_toArray, List.getElem_cons_succ, List.getElem_cons_zero]
      by_cases hCN : N < (C : Int)
      · have d0 : decide (N < (C : Int)) = true := decide_eq_true hCN
        refine wpAnyH_take (i := 6) (v := ?_) rfl (by kernel_rfl) (by kernel_rfl) (by kernel_rfl) (fun _ _ _ h => h) (Or.inl ⟨by rfl, fun w hSw => ?_⟩) (by assumption) ?_
        rotate_left
        · (try dsimp only at hSw); go_simp; try with_reducible rfl
        simp only [Act.put, List.setIfInBounds_toArray, List.set_cons_zero, List.set_cons_succ, List.getElem_toArray, List.getElem_cons_succ, List.getElem_cons_zero]
        refine wpAnyH_done (by kernel_rfl) ?_ _
        go_wp2_with (fail)
        go_ret
        exact ⟨rfl, HB6.out⟩
      have d0 : decide (N < (C : Int)) = false := decide_eq_false hCN
      refine wpAnyH_take (i := 6) (v := ?_) rfl (by kernel_rfl) (by kernel_rfl) (by kernel_rfl) (fun _ _ _ h => h) (Or.inl ⟨by rfl, fun w hSw => ?_⟩) (by assumption) ?_
      rotate_left
      · (try dsimp only at hSw); go_simp; try with_reducible rfl
      simp only [Act.put, List.setIfInBounds_toArray, List.set_cons_zero, List.set_cons_succ, List.getElem_toArray, List.getElem_cons_succ, List.getElem_cons_zero]
      refine wpAnyH_done (by kernel_rfl) ?_ _
      have HL6 := Lib.hid (HL.out.next HB6.out)
      clear HX5 HB5 HL5 c0 c1 c2 w3 hHeld d0 hp0 hp1 d3 h26 q2
      obtain ⟨fa, hfa⟩ : ∃ fa : Nat → Int, fa = fun i : Nat => (i : Int) + 1 := ⟨_, rfl⟩
      have HFA := Lib.hid hfa
      clear hfa
      have HO1 := Lib.hid ((ownI_none w6 w6.heap.size (Nat.le_refl _)).alloc (.cells #[.slice none 0 0, .slice none 0 0] 43))
      have HR1 : Hid (((w6.alloc (.cells #[] 3)).alloc (.cells #[.slice none 0 0, .slice none 0 0] 43)).heap[w6.heap.size + 1]? = some (.cells #[.slice none 0 0, .slice none 0 0] 43 (0, 0))) := Lib.hid (by
        have := heap_alloc_new (w6.alloc (.cells #[] 3)) (.cells #[.slice none 0 0, .slice none 0 0] 43)
        rw [show (w6.alloc (.cells #[] 3)).heap.size = w6.heap.size + 1 from by simp] at this
        exact this)
      have HBS := Lib.hid (((Below.refl w6.heap.size w6).alloc (Nat.le_refl _) (.cells #[] 3)).alloc (by simp) (.cells #[.slice none 0 0, .slice none 0 0] 43))
      go_wp2_with (fail)
      go_loopw [10, 12] (fun v8 v wr => ∃ i : Nat, i ≤ C ∧ v = .int .i64 i ∧ OwnI wr w6.heap.size v8 i (sq fa i) ∧ v8.ownBlock ≠ some (w6.heap.size + 1) ∧ wr.heap[w6.heap.size + 1]? = some (.cells #[.slice none 0 0, .slice none 0 0] 43 (0, 0)) ∧ Below w6.heap.size w6 wr) (fun _ v _ => C - (RowKit.intOf v).toNat)
      case atStart => exact ⟨0, by omega, rfl, HO1.out, (by simp [Value.ownBlock]), HR1.out, HBS.out⟩
      case round =>
        obtain ⟨i, hi, rfl, ho1, hne, hrow, hbr⟩ := hrel
        have HO1 := Lib.hid ho1
        have HNE2 := Lib.hid hne
        have HROW := Lib.hid hrow
        have HBR := Lib.hid hbr
        clear ho1 hne hbr hrow
        by_cases hlt : i < C
        · have HSA : Hid (sq fa (i + 1) = sq fa i ++ [(i : Int) + 1]) := Lib.hid (by rw [sq_succ, HFA.out])
          go_wp2_with (at_builtin; go_must (refine wpList_apG rfl (.tmp 67) (.tmp 70) rfl w6.heap.size u10 i (sq fa i) rfl (HO1.out.alloc _) wr.heap.size ((i : Int) + 1) rfl (by simp) (by omega) (by have := HBR.out.size; simp; omega) w6 (HBR.out.alloc HBR.out.size _) ?_; intro v1 w7 ho1 hg1 hne1 hb1; have HP1 := Lib.hid ho1; have HP2 := Lib.hid hg1; have HP3 := Lib.hid hne1; have HP4 := Lib.hid hb1; clear ho1 hg1 hne1 hb1))
          go_roundw
          case rel =>
            have hgl := lt_of_block HROW.out
            refine ⟨i + 1, by omega, by go_num, by rw [HSA.out]; exact HP1.out, fun e => ?_, ?_, HP4.out⟩
            · rcases HP3.out _ e with e2 | e2
              · exact HNE2.out e2
              · simp at e2; omega
            · rw [HP2.out.block _ (by simp; omega) fun e => HNE2.out e.symm]
              exact (((Below.refl wr.heap.size wr).alloc (Nat.le_refl _) _).block _ hgl).trans HROW.out
          case measure => simp [RowKit.intOf]; omega
        · obtain rfl : i = C := by omega
          obtain ⟨a1, k1, rfl, hi1, _, _, hlo1⟩ := HO1.out.ins
          have HI1 := Lib.hid hi1
          have hx7 := HX6.out.next HBR.out
          have c0 := hx7.c0
          have c1 := hx7.c1
          have c2 := hx7.c2
          have HX7 := Lib.hid hx7
          have HB7 := Lib.hid (HB6.out.trans (HBR.out.mono HB6.out.size))
          have HL7 := Lib.hid (HL.out.next HB7.out)
          have hfab : ∀ j, j < i → 1 ≤ fa j ∧ fa j ≤ N := by
            intro j hj
            rw [HFA.out]
            simp only
            omega
          have hbo : bldO d r s f n (sq fa i) = true := by
            rw [bldO, HR.out, sq_len, HCN.out, decide_eq_true rfl, adO_yes HRT.out, ← HNE.out, sq_any fa fun j hj => hfab j hj]
            rfl
          have HBA := Lib.hid hbo
          have hlb : ∀ at' : Nat → Int, i = off at' (ndF' f) n + 3 := by
            intro at'
            rw [off_need fun j hj => (mr_few HR.out).2.2 j hj, HC.out]
            omega
          have HLB := Lib.hid hlb
          have HFAB := Lib.hid hfab
          clear hi1 hx7 hfab hbo hlb HO1
          go_wp2_with (fail)
          refine (pbuild_fr d r s a a1 n c i k1 f (sq fa i) wr HL7.out (by omega) HI1.out (by omega)).mono ?_
          rintro e w9 ⟨hb9, hv⟩
          rw [HBA.out, if_pos rfl] at hv
          obtain ⟨ao, co, gs, rfl, hbls, hgs, hs, x, y, hgx, hxa, hyl, hyf⟩ := hv
          have hgl : gs.length = i := by
            have := congrArg List.length hgs
            rw [List.length_map, layB_len, ← HLB.out] at this
            exact this
          have hi3 : 3 ≤ i := by have := HLB.out (num []); omega
          obtain ⟨m, hm⟩ : ∃ m : Nat, m = i - 1 := ⟨_, rfl⟩
          have hmg : m < gs.length := by omega
          have hxm : gs[m] = x := by
            have h1 : hs.length = m := by
              have := congrArg List.length hgx
              rw [List.length_append, List.length_singleton] at this
              omega
            have h2 : gs[m]? = some x := by rw [hgx, List.getElem?_append_right (by omega), h1]; simp
            rw [List.getElem?_eq_getElem hmg] at h2
            exact Option.some.inj h2
          have hxr : gs[m].bk = ⟨0, 0, rtB (num (sq fa i) (off (num (sq fa i)) (ndF' f) n)) (num (sq fa i) (off (num (sq fa i)) (ndF' f) n + 1))⟩ := by
            have h1 := layB_root (num (sq fa i)) (ndF' f) n (HLB.out _)
            rw [← hgs] at h1
            rw [← h1, ← hm]
            simp [List.getD, hmg]
          have hxz : gs[m].z = rtB (num (sq fa i) (off (num (sq fa i)) (ndF' f) n)) (num (sq fa i) (off (num (sq fa i)) (ndF' f) n + 1)) := congrArg Bk.z hxr
          have HXZ := Lib.hid hxz
          have HG1 := Lib.hid hgs
          have HGL1 := Lib.hid hgl
          have HBL1 := Lib.hid hbls
          rw [hgl]
          have HX9 := Lib.hid (HX7.out.next hb9)
          have HI9 := Lib.hid (HI1.out.next hb9)
          have HB9 := Lib.hid (HB7.out.trans (hb9.mono HB7.out.size))
          have HROW9 := Lib.hid ((hb9.block _ (lt_of_block HROW.out)).trans HROW.out)
          have HYL := Lib.hid (show w.heap.size ≤ y.block from Nat.le_trans HB7.out.size hyl)
          clear hb9 hgl hbls c0 c1 c2 HX7 HB7 HL7 hlo1 hxr hyl
          have hzn : ∀ x, x ∈ gs → x.n = 56 := by
            intro x hx
            obtain ⟨j, hj, rfl⟩ := List.getElem_of_mem hx
            rcases HBL1.out with h0 | ⟨b, off, e, hlt2, hc⟩
            · omega
            have h1 := (hc j hj).pin.len
            have h2 : gs[j].bk ∈ layB (num (sq fa i)) (ndF' f) n := by rw [← HG1.out]; exact List.mem_map.2 ⟨_, hx, rfl⟩
            have h3 : gs[j].z.length = 56 := layB_z _ _ _ _ h2
            omega
          obtain ⟨gS, hgS⟩ : ∃ gS, gS = w6.heap.size + 1 := ⟨_, rfl⟩
          have hfar := bls_far (g := gS) HBL1.out (by rw [hgS]; exact HROW9.out) (fun x hx => by rw [hzn x hx]; decide)
          rcases hfar with h0 | ⟨bb, bo, rfl, hbb, hbg, hbc⟩
          · omega
          have hpinx := (hbc m hmg).1.pin
          have hnx : gs[m].n = 56 := hzn _ (List.getElem_mem hmg)
          obtain ⟨q, rfl⟩ : ∃ q : Nat, p = (q : Int) := ⟨p.toNat, by have := HPB.out; omega⟩
          have hq56 : q < 56 := by have := HPB.out; omega
          obtain ⟨yb, yo, hya, hylt, hyc⟩ := hpinx.at (by omega)
          rw [hxm, hxa] at hya
          have hyy : y = ⟨yb, yo, none⟩ := Option.some.inj hya
          subst hyy
          rw [hnx] at hyc
          have v0 := hyc q hq56
          have v1 := hyf (yo + q)
          simp only at v1
          obtain ⟨z, hz⟩ : ∃ z, z = byt gs[m].z q := ⟨_, rfl⟩
          rw [← hz] at v0
          have hzb : 0 ≤ z ∧ z ≤ 255 := by rw [hz]; exact byt_bd hpinx.bys.small q
          have hxz2 : bits .xor .u8 z t = xr z t := u8_xr hzb HT0.out
          have hx2b := xr_bd hzb HT0.out
          have hx2n := xr_ne hzb.1 HT0.out.1 HT00.out
          have hpall : ∀ x, x ∈ gs → Pin w9 x.a x.n x.c x.z := by
            intro x hx
            obtain ⟨j, hj, rfl⟩ := List.getElem_of_mem hx
            exact (hbc j hj).1.pin
          obtain ⟨P, hP, hPm⟩ := pokes (p := q) hpall hmg (by rw [hxm]; exact hxa) (by omega) hx2b
          obtain ⟨w10, hw10⟩ : ∃ w10, w10 = w9.setCell ⟨yb, yo + q, none⟩ (.int .u8 (xr z t)) := ⟨_, rfl⟩
          rw [← hw10] at hP
          have hk64 : ∀ (b o : Nat) (u : Value), w9.cell? ⟨b, o, none⟩ = some u → Value.int .u8 z ≠ u → w10.cell? ⟨b, o, none⟩ = some u := fun b o u h1 h2 => by
            rw [hw10]; exact poke_other v0 h1 h2 _
          have hsz10 : w10.heap.size = w9.heap.size := by rw [hw10]; simp [World.setCell]
          have hygS : yb ≠ gS := ((hbc m hmg).2 ⟨yb, yo, none⟩ (by rw [hxm]; exact hxa)).1
          have hrow10 : w10.heap[gS]? = some (.cells #[.slice none 0 0, .slice none 0 0] 43 (0, 0)) := by
            rw [hw10]
            have ht : Turn (fun j => j = yb) w9 (w9.setCell ⟨yb, yo + q, none⟩ (.int .u8 (xr z t))) := Turn.setCell (M := fun j => j = yb) w9 (a := ⟨yb, yo + q, none⟩) rfl _
            rw [ht.block gS (by have := lt_of_block HROW9.out; rw [hgS]; exact this) (fun e => hygS e.symm), hgS]
            exact HROW9.out
          have hB10 : Below w.heap.size w w10 := by rw [hw10]; exact Below.setCell (p := ⟨yb, yo + q, none⟩) HB9.out HYL.out _
          have hx10 : Bx w10 g d r s := ⟨by rw [hsz10]; exact HX9.out.lt, hk64 _ _ _ HX9.out.c0 (by simp), hk64 _ _ _ HX9.out.c1 (by simp), hk64 _ _ _ HX9.out.c2 (by simp)⟩
          have hc2 : ∀ j (hj : j < gs.length), w10.cell? ⟨bb, bo + j * 3 + 2, none⟩ = some (pcV (P j)) := fun j hj => by
            rw [(hP j hj).1]
            exact hk64 _ _ _ (hbc j hj).1.c2 (by simp)
          rcases HI9.out.at (show 0 < i by omega) with ⟨ba, oa, rfl, hba, hca⟩
          have hca10 : ∀ j, j < i → w10.cell? ⟨ba, oa + j, none⟩ = some (.int .i64 (num (sq fa i) j)) := fun j hj => hk64 _ _ _ (hca j hj) (by simp)
          have hbag : ba ≠ gS := by
            intro e
            apply HNE2.out
            rw [← hgS, ← e]
            simp [Value.ownBlock]
          obtain ⟨B2, hB2⟩ : ∃ B2, B2 = w10.heap.size := ⟨_, rfl⟩
          have hst : StH w10 B2 gS (.slice none 0 0) (.slice none 0 0) ((List.range 0).map fa) ((List.range 0).map P) :=
            ⟨hrow10, ownI_nil _ _, World.ownsRow_nil _ _ _ _, by simp [Value.ownBlock], by simp [Value.ownBlock], by simp [Value.ownBlock]⟩
          have x3 := (hbc m hmg).1.c2
          rw [hxm] at x3
          rw [hxa] at x3
          have hnx2 : x.n = 56 := by rw [← hxm]; exact hnx
          rw [hnx2] at x3
          have hfr : ∀ j (hj : j < gs.length) (y : Addr), gs[j].a = some y → y.block ≠ gS ∧ y.block < w10.heap.size := fun j hj y e => by rw [hsz10]; exact (hbc j hj).2 y e
          have HFR := Lib.hid hfr
          clear hfr
          have HPW := Lib.hid hP
          have HPM := Lib.hid hPm
          have HX2N := Lib.hid (show xr z t ≠ byt gs[m].z q by rw [← hz]; exact hx2n)
          have HST := Lib.hid hst
          have HB2 := Lib.hid hB2
          have HGS := Lib.hid hgS
          have HB10 := Lib.hid hB10
          have HX10 := Lib.hid hx10
          have HC2 := Lib.hid hc2
          have HCA := Lib.hid hca10
          have HBA2 := Lib.hid (show ba < w10.heap.size ∧ ba ≠ gS from ⟨by rw [hsz10]; exact hba, hbag⟩)
          have HBB := Lib.hid (show bb < w10.heap.size ∧ bb ≠ gS from ⟨by rw [hsz10]; exact hbb, hbg⟩)
          have HZN := Lib.hid hzn
          have HMI := Lib.hid hm
          have HW10 := Lib.hid hw10
          have HMG := Lib.hid hmg
          have k2 : (i : Int) - 1 = ((m : Nat) : Int) := by omega
          have k3 : (m : Int) < (i : Int) := by omega
          have k4 : (0 : Int) ≤ (m : Int) := by omega
          have k5 : (q : Int) < 56 := by omega
          have k6 : (0 : Int) ≤ (q : Int) := by omega
          have hwm : IntKind.i64.wrap (m : Int) = (m : Int) := IntWalk.i64_in _ (by omega)
          clear hzn hst hbb hbg hbc hca hba hbag hgx hxm hxa hyf hxz hgs hpinx hnx hnx2 hya hyc hz hzb hx2b hx2n hpall hP hPm hk64 hsz10 hygS hrow10 hB10 hx10 hc2 hca10 hw10 hB2 hm HROW9 HROW HX9 HB9 HYL
          go_wp2_with (fail)
          rw [← HW10.out, ← hgS]
          clear v0 v1 x3 hxz2 HW10 hgS k2 k3 k4 k5 k6 hwm
          go_loopw [15] (fun v wk => ∃ k : Nat, k ≤ i ∧ v = .int .i64 k ∧ (∃ vA vD, StH wk B2 gS vA vD ((List.range k).map fa) ((List.range k).map P)) ∧ Turn (Tg2 gS B2) w10 wk) (fun v _ => i - (RowKit.intOf v).toNat)
          case atStart => exact ⟨0, by omega, rfl, ⟨_, _, HST.out⟩, Turn.refl _ _⟩
          case round =>
            obtain ⟨k, hk, rfl, ⟨vA, vD, hst⟩, hbk⟩ := hrel
            have HS := Lib.hid hst
            have HT := Lib.hid hbk
            clear hst hbk
            by_cases hkl : k < i
            · have hB2k : B2 ≤ wr.heap.size := by rw [HB2.out]; exact HT.out.size
              obtain ⟨l1, c0, c1, f0, f1⟩ := HS.out.cells
              obtain ⟨i0, hi0, hz0, hz1, hz2⟩ := info_parts info3
              obtain ⟨z, hz⟩ : ∃ z, z = fa k := ⟨_, rfl⟩
              have x5 : wr.cell? ⟨ba, oa + k, none⟩ = some (.int .i64 z) := by
                rw [HT.out.cell (a := ⟨ba, oa + k, none⟩) HBA2.out.1 (by rintro (e | e); exact HBA2.out.2 e; have := HBA2.out.1; rw [HB2.out] at e; simp only at e; omega), HCA.out k hkl, sq_num fa hkl, hz]
              have HZ := Lib.hid hz
              have hlenA : ((List.range k).map fa).length = k := by simp
              have hlenD : ((List.range k).map P).length = k := by simp
              have HO := Lib.hid HS.out.oa
              rw [hlenA] at HO
              have HLA := Lib.hid hlenA
              have HLD := Lib.hid hlenD
              have HBK := Lib.hid hB2k
              have k1 : (k : Int) < (i : Int) := by omega
              have k0 : (0 : Int) ≤ (k : Int) := by omega
              clear hz hlenA hlenD hB2k
              go_wp2_with (fail)
              go_upto_region 21 with fail
              go_region_law (refine step_append_lies _ rfl (.tmp 118) (.tmp 123) 25 rfl B2 3 i0 (.int .i64 0) 1 8 Try.underlying25 hi0 hz0 hz1 hz2 rfl (by decide) vA k _ (by simp [Act.eval, Act.put]) (by exact own1 HO.out) ⟨wr.heap.size, 0, none⟩ 1 1 [.int .i64 z] (by simp [Act.eval, Act.put]) rfl (by exact new1 wr _ _) (by simp; rfl) (by decide) (by unfold maxLen; omega) (by omega) (by have := HBK.out; simp [World.drew]; omega) (wr.heap.size + 1) (by simp [World.drew]) ?_; intro g1 cap1 w12 ho8 hg8 ha8 hl8; have HG8 := Lib.hid hg8; have HO8 := Lib.hid ho8; have HA8 := Lib.hid ha8; obtain ⟨m1, m2, m3, m4, m5⟩ := HS.out.far (bl1 wr _) hg8 HS.out.na; clear hg8 ho8 ha8)
              all_goals (
                obtain ⟨hS9, hT9⟩ := HS.out.putA HT.out HBK.out (bl1 wr _) HLA.out HO8.out HG8.out HA8.out (by simp [World.drew])
                obtain ⟨w13, hw13⟩ : ∃ w13, w13 = w12.setCell ⟨gS, 0, none⟩ (.slice (some ⟨g1, 0, none⟩) (k + 1) cap1) := ⟨_, rfl⟩
                rw [← hw13] at hS9 hT9 ⊢
                have HS9 := Lib.hid hS9
                have HT9 := Lib.hid hT9
                have hsz9 : B2 ≤ w13.heap.size := by rw [HB2.out]; exact hT9.size
                have HSZ := Lib.hid hsz9
                clear hw13 hS9 hT9 HO8 HG8 HA8 HO m1 m2 m3 m4 m5 hl8 c0 c1 f0 f1 x5 hsz9
                obtain ⟨l1, c0, c1, f0, f1⟩ := HS9.out.cells
                have hgi : k < gs.length := by rw [HGL1.out]; exact hkl
                obtain ⟨x, hxe⟩ : ∃ x, x = P k := ⟨_, rfl⟩
                have c2 : w13.cell? ⟨bb, bo + k * 3 + 2, none⟩ = some (pcV x) := by
                  rw [HT9.out.cell (a := ⟨bb, bo + k * 3 + 2, none⟩) HBB.out.1 (by rintro (e | e); exact HBB.out.2 e; have := HBB.out.1; rw [HB2.out] at e; simp only at e; omega), hxe]
                  exact HC2.out k hgi
                have HXE := Lib.hid hxe
                have HD := Lib.hid HS9.out.od
                rw [HLD.out] at HD
                obtain ⟨i1, hi1, hy0, hy1, hy2⟩ := info_parts infoS
                clear hxe
                go_upto_region 22 with fail
                go_region_law (refine step_append_lies _ rfl (.tmp 131) (.tmp 137) 39 rfl B2 50 i1 (.slice none 0 0) 1 24 Try.underlying39 hi1 hy0 hy1 hy2 rfl (by decide) vD k _ (by simp [Act.eval, Act.put]) (by exact own1 HD.out) ⟨w13.heap.size, 0, none⟩ 1 1 [.slice x.a x.n x.c] (by simp [Act.eval, Act.put]) rfl (by exact new1 w13 _ _) (by simp; rfl) (by decide) (by unfold maxLen; omega) (by omega) (by have := HSZ.out; simp [World.drew]; omega) (w13.heap.size + 1) (by simp [World.drew]) ?_; intro g2 cap2 w14 ho8 hg8 ha8 hl8; have HG8 := Lib.hid hg8; have HO8 := Lib.hid ho8; have HA8 := Lib.hid ha8; obtain ⟨m1, m2, m3, m4, m5⟩ := HS9.out.far (bl1 w13 _) hg8 HS9.out.nd; clear hg8 ho8 ha8)
                all_goals (
                  obtain ⟨hS9, hT9⟩ := HS9.out.putD HT9.out HSZ.out (bl1 w13 _) (p := x) HLD.out HO8.out HG8.out HA8.out (by simp [World.drew])
                  have htd : ((List.range (k + 1)).map P) = ((List.range k).map P) ++ [x] := by
                    rw [List.range_succ, List.map_append, List.map_cons, List.map_nil, HXE.out]
                  have hta : (List.range (k + 1)).map fa = (List.range k).map fa ++ [z] := by
                    rw [List.range_succ, List.map_append, List.map_cons, List.map_nil, HZ.out]
                  rw [← hta, ← htd] at hS9
                  have HS10 := Lib.hid hS9
                  have HT10 := Lib.hid hT9
                  clear hS9 hT9 HO8 HG8 HA8 m1 m2 m3 m4 m5 hl8 c0 c1 c2 f0 f1 hta htd
                  go_wp2_with (fail)
                  go_roundw
                  case rel => exact ⟨k + 1, by omega, by go_num, ⟨_, _, HS10.out⟩, HT10.out⟩
                  case measure => simp [RowKit.intOf]; omega))
            · obtain rfl : k = i := by omega
              have hx9 : Bx wr g d r s := by
                have hg1 : g < w10.heap.size := HX10.out.lt
                have hgn : g ≠ gS := by
                  have h1 := HX6.out.lt
                  rw [HGS.out]; omega
                have hk9 : ∀ o, wr.cell? ⟨g, o, none⟩ = w10.cell? ⟨g, o, none⟩ := fun o => HT.out.cell (a := ⟨g, o, none⟩) hg1 (by
                  rintro (e | e)
                  · exact hgn e
                  · rw [HB2.out] at e; simp only at e; omega)
                exact ⟨Nat.lt_of_lt_of_le hg1 HT.out.size, (hk9 0).trans HX10.out.c0, (hk9 1).trans HX10.out.c1, (hk9 2).trans HX10.out.c2⟩
              have c0 := hx9.c0
              have c1 := hx9.c1
              have c2 := hx9.c2
              -- what lies there
              have hpin : ∀ p, p ∈ ((List.range k).map P) → Pin wr p.a p.n p.c p.zs ∧ p.n ≤ 1000000000000 := by
                intro p hp
                obtain ⟨j, hj, rfl⟩ := List.mem_map.1 hp
                have hjk := List.mem_range.1 hj
                have hjg : j < gs.length := by rw [HGL1.out]; exact hjk
                obtain ⟨h1, h2, h3⟩ := HPW.out j hjg
                refine ⟨h3.turn HT.out fun y ey => ?_, by rw [h2, HZN.out _ (List.getElem_mem hjg)]; decide⟩
                have h4 := HFR.out j hjg y (by
                  have := h1
                  simp only [pcV, Value.slice.injEq] at this
                  rw [← this.1]; exact ey)
                rintro (e | e)
                · exact h4.1 e
                · rw [HB2.out] at e; omega
              obtain ⟨A, cA, Dt, cD, hsto⟩ := HS.out.sto hpin (by rw [List.length_map, List.length_map]) (by rw [List.length_map, List.length_range]; omega)
              have hat : ∀ j, j < k → num (sq fa k) j = fa j := fun j hj => sq_num fa hj
              have hfx : ∀ x : Nat, fa x = (x : Int) + 1 := fun x => by rw [HFA.out]
              have hrun : ldR (adO d r s) (blkF ((List.range k).map fa) (fun i => ((List.range k).map P).getD i default)) (k : Int) = .error 15 := by
                have hinj : ∀ a, a ∈ List.range k → ∀ b, b ∈ List.range k → fa a = fa b → a = b := by
                  intro a ha b hb e
                  rw [hfx, hfx] at e
                  omega
                have hko : off (num (sq fa k)) (ndF' f) n + 3 = k := (HLB.out _).symm
                have hkm : (k : Int) = fa m := by rw [hfx]; have := HMI.out; omega
                have hkN : k ≤ N := by have := HFAB.out (k - 1) (by omega); rw [hfx] at this; omega
                have hch : ∀ j, j < k → 0 ≤ num (sq fa k) j ∧ num (sq fa k) j ≤ 65535 := fun j hj => by
                  have h1 := HFAB.out j hj
                  have h2 := HNB.out
                  rw [hat j hj]
                  omega
                rw [adO_yes HRT.out]
                refine load_turned (b := (P m).zs) ⟨by omega, by rw [← HNE.out]; exact hkN⟩ (by rw [hkm]; exact blk_ix hinj (List.mem_range.2 (by have := HMI.out; omega))) ?_ ?_
                · rw [HPM.out, HXZ.out]
                  simp [rtB_len]
                · rw [HPM.out, HXZ.out]
                  refine rtB_turn (hch _ (by omega)) (hch _ (by omega)) hq56 (by have := HPB.out; omega) ?_
                  rw [← HXZ.out]
                  exact HX2N.out
              have HSTO := Lib.hid hsto
              have HRUN := Lib.hid hrun
              have hgl9 := hx9.lt
              clear hpin hat hrun hsto hx9 hfx
              go_wp2_with (fail)
              refine (pload_any d r s gS A _ cA Dt _ cD _ _ (k : Int) _ HSTO.out).mono ?_
              rintro e w15 ⟨hb15, hv⟩
              rw [HRUN.out] at hv
              subst hv
              have HB15 := Lib.hid hb15
              clear hb15
              go_wp2_with (fail)
              go_ret
              refine ⟨rfl, (HB10.out.trans (HT.out.below HB10.out.size ?_)).trans (HB15.out.mono ?_)⟩
              · rintro j (e | e)
                · have := HB6.out.size
                  have := HGS.out
                  omega
                · have := HB10.out.size
                  have := HB2.out
                  omega
              · exact Nat.le_trans HB10.out.size HT.out.size
end Go.Proofs.Ytegcjpocdfmpfaa
