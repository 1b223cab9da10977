/-
  FileBytes, by contract.
-/
import Derived.Test.YtegcjpocdfmpfaaZaj
namespace Go.Proofs.Ytegcjpocdfmpfaa
open Go.RowKit
set_option linter.unusedVariables false
set_option linter.unusedSimpArgs false

def lenW : Value → Nat
  | .slice _ m _ => m
  | _ => 0
theorem alloc1 (w : World) : Below w.heap.size w (w.alloc (.cells #[.int .u8 0] 5)) := (Below.refl _ _).alloc (Nat.le_refl _) _
theorem new0 (w : World) : (w.alloc (.cells #[.int .u8 0] 5)).cell? ⟨w.heap.size, 0, none⟩ = some (.int .u8 0) := cell_of_row _ _ 0 _ _ (0, 0) (heap_alloc_new w _)
theorem AlF.front {w0 w : World} {B b s n cc : Nat} {T D : Nat → Prop} {c c0 : Nat → Int} {a : Option Addr} (h : AlF w0 w B b s T D c (.slice a n cc) n (rdC c0 0 n)) {k : Nat} (hk : k ≤ n) : AlF w0 w B b s T D c (.slice a k cc) k (rdC c0 0 k) ∧ n ≤ cc := by
  obtain ⟨h1, h2⟩ := h.o.front hk
  rw [rdC_take c0 0 hk] at h1
  exact ⟨⟨h.f, h1, fun j e => h.ap j (by cases a with | none => simp [Value.ownBlock] at e | some p => simpa [Value.ownBlock] using e), h.tl, h.dl, h.bl, h.be, h.bb⟩, h2⟩
theorem selL_ext (p : Nat → Bool) {k N : Nat} (hk : k ≤ N) (h : ∀ j, k ≤ j → p j = false) : selL p N = selL p k := by
  obtain ⟨d, rfl⟩ : ∃ d, N = k + d := ⟨N - k, by omega⟩
  clear hk
  induction d with
  | zero => rfl
  | succ d ih => rw [← Nat.add_assoc, selL_no (h (k + d) (by omega)), ih]
theorem theP_none (c : Nat → Int) {k : Nat} (h : ∀ i, 56 * k ≤ i → c i = 0) : theP (fun _ => 0) (cX c) k = false := by
  unfold theP
  rw [cB_zero fun j _ => h _ (by omega)]
  rfl
def smC (c : Nat → Int) (q m : Nat) : Bool := (List.range m).any fun j => c (q + j) != 0
theorem smC_succ (c : Nat → Int) (q m : Nat) : smC c q (m + 1) = (smC c q m || (c (q + m) != 0)) := by simp [smC, List.range_succ]
theorem theP_sm (c : Nat → Int) {k q m : Nat} (hq : q = k * 56) (hm : m ≤ 56) (h : m = 56 ∨ ∀ i, q + m ≤ i → c i = 0) : smC c q m = theP (fun _ => 0) (cX c) k := by
  cases hs : smC c q m with
  | false =>
    have h1 : ∀ j, j < m → c (q + j) = 0 := by simpa [smC] using hs
    unfold theP
    rw [cB_zero fun j hj => ?_]
    · rfl
    · by_cases h2 : j < m
      · rw [show 56 * k + j = q + j by omega]
        exact h1 j h2
      · rcases h with h | h
        · omega
        · exact h _ (by omega)
  | true =>
    have h1 : ∃ j, j < m ∧ ¬ c (q + j) = 0 := by simpa [smC] using hs
    obtain ⟨j, hj, hc⟩ := h1
    unfold theP
    cases hX : cX c k with
    | nil =>
      exfalso
      have h2 := cX_byt c k (j := j) (by omega)
      rw [hX] at h2
      apply hc
      rw [show q + j = 56 * k + j by omega, ← h2]
      rfl
    | cons z zs => rfl
theorem wrS_cases (s K l : Nat) (h : ¬ wrBad (K : Int) l = true) : (l = 0 ∧ wrS s (K : Int) l = s) ∨ (0 < l ∧ ((wrS s (K : Int) l = s ∧ K + l ≤ s) ∨ (wrS s (K : Int) l = K + l ∧ s ≤ K + l))) := by
  by_cases h0 : l = 0
  · exact .inl ⟨h0, by rw [wrS, if_pos (.inr h0)]⟩
  · refine .inr ⟨by omega, ?_⟩
    rw [wrS, if_neg (fun h1 => h1.elim h h0), Int.toNat_natCast]
    rcases Nat.le_total s (K + l) with h1 | h1
    · exact .inr ⟨Nat.max_eq_right h1, h1⟩
    · exact .inl ⟨Nat.max_eq_left h1, h1⟩
theorem AlX.form {w0 w : World} {B b s m : Nat} {T D : Nat → Prop} {c : Nat → Int} {v : Value} {L : List Int} {bx : Nat} {cs : Array Value} (h : AlX w0 w B b s T D c v m L bx cs) (hm : 0 < m) : ∃ g cap, v = .slice (some ⟨g, 0, none⟩) m cap ∧ ∀ i, i < m → w.cell? ⟨g, i, none⟩ = some (.int .u8 (byt L i)) ∧ w.frozen? ⟨g, i, none⟩ = false := by
  have hl := h.al.o.len
  have hr := h.al.o.row
  rcases h.al.o.row.2 with ⟨_, h0⟩ | ⟨g, cap, cur, rfl, hb, hg, _⟩
  · omega
  · refine ⟨g, cap, rfl, fun i hi => ⟨?_, frozen_of_row w g i _ _ hg⟩⟩
    have h1 := World.ownsRow.cells hr (g := g) rfl i (.int .u8 (byt L i)) (by rw [List.getElem?_map, List.getElem?_eq_getElem (by omega)]; simp [byt, List.getD, List.getElem?_eq_getElem (show i < L.length by omega)])
    rw [Addr.add_lit, Nat.zero_add] at h1
    exact h1
theorem wr_step (c : Nat → Int) (K s : Nat) (zs : List Int) {j : Nat} (hj : j < zs.length) (hs : K + zs.length ≤ s) : (rdC (wrC c K (zs.take j)) 0 s).set (K + j) (byt zs j) = rdC (wrC c K (zs.take (j + 1))) 0 s := by
  refine byt_ext (by rw [List.length_set, rdC_len, rdC_len]) fun i hi => ?_
  rw [List.length_set, rdC_len] at hi
  rw [rdC_byt _ _ hi, Nat.zero_add]
  by_cases e : i = K + j
  · subst e
    rw [wrC, if_pos (by rw [List.length_take]; omega)]
    have e1 : K + j - K = j := by omega
    rw [e1]
    simp [byt, List.getD, rdC_len, hi, List.getElem?_take]
  · have h1 : byt ((rdC (wrC c K (zs.take j)) 0 s).set (K + j) (byt zs j)) i = byt (rdC (wrC c K (zs.take j)) 0 s) i := by
      simp [byt, List.getD, List.getElem?_set, Ne.symm e]
    rw [h1, rdC_byt _ _ hi, Nat.zero_add, wrC, wrC, List.length_take, List.length_take]
    by_cases h2 : K ≤ i ∧ i < K + min j zs.length
    · rw [if_pos h2, if_pos (by omega)]
      simp [byt, List.getD, List.getElem?_take]
      rw [if_pos (by omega), if_pos (by omega)]
    · rw [if_neg h2, if_neg (by omega)]
set_option maxRecDepth 100000 in
set_option maxHeartbeats 16000000 in
theorem fileBytes_any (a : Option Addr) (n c : Nat) (f : Nat → Cb) (w : World) (hc : CbsAt w a n f) :
    Calls Try.prog 7 #[.slice a n c] w fun e w' => e = .returned (.bool true) ∧ Below w.heap.size w w' := by
  have HC := Lib.hid hc
  clear hc
  go_enter Try.func7, Try.ntmps7
  go_wp2_with (fail)
  refine (falive_any w).mono ?_
  rintro e w2 ⟨rfl, hb2⟩
  go_wp2_with (fail)
  refine (fgreat_any none 0 0 (fun _ => default) a n c f w2 ⟨.inl rfl, fun i hi => by omega⟩ (by omega) (fun i hi => by omega) (HC.out.next hb2)).mono ?_
  rintro e w3 ⟨gb, rfl, hgb, hb3⟩
  have HB3 := Lib.hid (hb2.trans (hb3.mono hb2.size))
  clear hb2 hb3
  cases gb with
  | true =>
    go_wp2_with (fail)
    go_ret
    exact ⟨rfl, HB3.out⟩
  | false =>
    have HG := Lib.hid (hgb rfl)
    clear hgb
    obtain ⟨w4, hw4⟩ : ∃ w4, w4 = w3.alloc (.cells #[.slice none 0 0, .slice none 0 0] 43) := ⟨_, rfl⟩
    have hb4 : Below w3.heap.size w3 w4 := by rw [hw4]; exact (Below.refl _ _).alloc (Nat.le_refl _) _
    have HB4 := Lib.hid (HB3.out.trans (hb4.mono HB3.out.size))
    have HW4 := Lib.hid hw4
    clear hb4 hw4
    go_wp2_with (fail)
    rw [← HW4.out]
    refine (FN.new w3.heap.size w4).mono ?_
    rintro e w5 ⟨b, T0, D0, rfl, hf, hbl, hD, hb⟩
    have HF5 := Lib.hid hf
    have HB5 := Lib.hid (HB4.out.trans (hb.mono HB4.out.size))
    have HL5 := Lib.hid (show w.heap.size ≤ b ∧ ∀ j, D0 j → w.heap.size ≤ j from ⟨Nat.le_trans HB4.out.size hbl, fun j hj => Nat.le_trans HB4.out.size (hD j hj)⟩)
    clear hf hbl hD hb
    obtain ⟨w6, hw6⟩ : ∃ w6, w6 = w5.alloc (.cells #[] 5) := ⟨_, rfl⟩
    have hal : AlF w w6 w5.heap.size b 0 T0 D0 (fun _ => 0) (.slice (some ⟨w5.heap.size, 0, none⟩) 0 0) 0 [] := by
      have hb6 : Below w5.heap.size w5 w6 := by rw [hw6]; exact (Below.refl _ _).alloc (Nat.le_refl _) _
      obtain ⟨l1, _, l3⟩ := HF5.out.lt
      refine ⟨HF5.out.next hb6, by rw [hw6]; exact own_none w5 w5.heap.size (Nat.le_refl _), fun j e => ?_, fun j hj => HL5.out.2 j (HF5.out.td j hj), HL5.out.2, HL5.out.1, HB5.out.trans (hb6.mono HB5.out.size), HB5.out.size, hb6.size⟩
      have ej : w5.heap.size = j := by simpa [Value.ownBlock] using e
      exact ⟨by omega, fun h => by have := l3 j h; omega⟩
    have HAL := Lib.hid hal
    have HW6 := Lib.hid hw6
    obtain ⟨B, hB⟩ : ∃ B, B = w5.heap.size := ⟨_, rfl⟩
    have HBB := Lib.hid hB
    clear hal hw6
    go_wp2_with (fail)
    rw [← HW6.out]
    rw [← hB] at HAL ⊢
    clear hB
    go_loopw [5, 6, 7, 8, 9, 10] (fun v5 v6 _ _ _ _ wr => ∃ (i s : Nat) (T D : Nat → Prop) (c : Nat → Int), i ≤ n ∧ v6 = .int .i64 i ∧ AlF w wr B b s T D c v5 s (rdC c 0 s)) (fun _ v6 _ _ _ _ _ => n - (RowKit.intOf v6).toNat)
    case atStart => exact ⟨0, 0, T0, D0, fun _ => 0, by omega, rfl, HAL.out⟩
    case round =>
      obtain ⟨i, s, T, D, c0, hi, rfl, hal⟩ := hrel
      have HA := Lib.hid hal
      have HS := Lib.hid hal.f.sz
      clear hal
      by_cases hlt : i < n
      · rcases HC.out with h0 | ⟨b1, o1, rfl, l1, r1⟩
        · omega
        have hx0 := r1 i hlt
        have hfew := HG.out.2.2.2 i hlt
        have hn60 := HG.out.2.2.1
        obtain ⟨x, hxe⟩ : ∃ x, x = f i := ⟨_, rfl⟩
        rw [← hxe] at hx0 hfew
        have HPW := Lib.hid (show ∀ w', Below w.heap.size w w' → Pin w' x.a x.l x.c x.zs from fun w' hb => (hx0.next l1 hb).pin)
        have hx := hx0.next l1 HA.out.be
        have k0 : (0 : Int) ≤ (i : Int) := by omega
        have k1 : (i : Int) < (n : Int) := by omega
        have d0 := hx.k0
        have d1 := hx.k1
        have d2 := hx.k2
        have d3 := hx.k3
        have HFW := Lib.hid hfew
        obtain ⟨w7, hw7⟩ : ∃ w7, w7 = wr.alloc (.cells #[.int .i64 x.q, .int .i64 x.k, .int .i64 x.n, .slice x.a x.l x.c] 62) := ⟨_, rfl⟩
        have hb7 : Below wr.heap.size wr w7 := by rw [hw7]; exact (Below.refl _ _).alloc (Nat.le_refl _) _
        have hr7 : w7.heap[wr.heap.size]? = some (.cells #[.int .i64 x.q, .int .i64 x.k, .int .i64 x.n, .slice x.a x.l x.c] 62 (0, 0)) := by rw [hw7]; exact heap_alloc_new wr _
        have HX := Lib.hid (AlX.mk' HA.out hr7 hb7)
        have HPI := Lib.hid (show Pin w7 x.a x.l x.c x.zs from hx.pin.next hb7)
        have HW7 := Lib.hid hw7
        clear hxe hx0 hx r1 hfew hw7 hb7 hr7 l1
        go_upto_region 13 with fail
        rw [← HW7.out]
        obtain ⟨bx, hbx⟩ : ∃ bx, bx = wr.heap.size := ⟨_, rfl⟩
        rw [← hbx] at HX ⊢
        clear d0 d1 d2 d3 hbx
        have hcell := fun j => cell_of_row w7 bx j _ _ (0, 0) HX.out.row
        have c0' := hcell 0
        have c1' := hcell 1
        have c2' := hcell 2
        have c3' := hcell 3
        simp only [List.getElem?_toArray, List.getElem?_cons_zero, List.getElem?_cons_succ] at c0' c1' c2' c3'
        clear hcell
        by_cases h1 : x.q = 1
        · rw [h1] at c0'
          have HQ1 := Lib.hid h1
          by_cases h3 : 3000 < x.k ∧ x.k ≤ 46368
          · obtain ⟨h3, h4⟩ := h3
            clear h1
            go_wp2_with (fail)
            go_ret
            exact ⟨rfl, HX.out.al.be⟩
          have hlen := HPI.out.len
          have hcall := HX.out.al.f.write x.k x.a x.l x.c x.zs HPI.out (by have := HFW.out; omega)
          by_cases hbad : wrBad x.k x.l = true
          · have hn2 : x.k < 0 ∨ 46368 < x.k := by
              have hfw := HFW.out
              unfold wrBad at hbad
              rw [Bool.or_eq_true, decide_eq_true_eq, decide_eq_true_eq] at hbad
              omega
            rw [if_pos hbad, wrS, if_pos (.inl hbad), wrZ, hlen, if_pos hbad] at hcall
            have HCALL := Lib.hid hcall
            clear hcall hbad h3 h1 hlen
            rcases hn2 with h5 | h5
            · have h6 : ¬ 3000 < x.k := by omega
              have h7 : ¬ 0 ≤ x.k := by omega
              go_wp2_with (fail)
              refine HCALL.out.mono ?_
              rintro e w8 ⟨rfl, hl⟩
              obtain ⟨T8, D8, hx8⟩ := HX.out.call hl
              have HX8 := Lib.hid hx8
              have hcell := cell_of_row w8 bx 1 _ _ (0, 0) hx8.row
              simp only [List.getElem?_toArray, List.getElem?_cons_zero, List.getElem?_cons_succ] at hcell
              clear hl hx8 c0' c1' c2' c3'
              go_wp2_with (fail)
              go_roundw
              case rel => exact ⟨i + 1, s, T8, D8, c0, by omega, by go_num, HX8.out.al⟩
              case measure => simp [RowKit.intOf]; omega
            · have h6 : 3000 < x.k := by omega
              have h8 : ¬ x.k ≤ 46368 := by omega
              have h7 : 0 ≤ x.k := by omega
              have h9 : ¬ x.k ≤ 3000 := by omega
              go_wp2_with (fail)
              refine HCALL.out.mono ?_
              rintro e w8 ⟨rfl, hl⟩
              obtain ⟨T8, D8, hx8⟩ := HX.out.call hl
              have HX8 := Lib.hid hx8
              have hcell := cell_of_row w8 bx 1 _ _ (0, 0) hx8.row
              simp only [List.getElem?_toArray, List.getElem?_cons_zero, List.getElem?_cons_succ] at hcell
              clear hl hx8 c0' c1' c2' c3'
              go_wp2_with (fail)
              go_roundw
              case rel => exact ⟨i + 1, s, T8, D8, c0, by omega, by go_num, HX8.out.al⟩
              case measure => simp [RowKit.intOf]; omega
          · have hn2 : 0 ≤ x.k ∧ x.k ≤ 3000 := by
              unfold wrBad at hbad
              rw [Bool.or_eq_true, decide_eq_true_eq, decide_eq_true_eq] at hbad
              omega
            obtain ⟨K, hN⟩ : ∃ K : Nat, x.k = (K : Int) := Int.eq_ofNat_of_zero_le hn2.1
            have HNE := Lib.hid hN
            rw [hN] at hbad
            rw [hN, if_neg hbad, wrZ, hlen, if_neg hbad, Int.toNat_natCast] at hcall
            obtain ⟨s', hs'⟩ : ∃ s', s' = wrS s (K : Int) x.l := ⟨_, rfl⟩
            rw [← hs'] at hcall
            have HS' := Lib.hid (wrS_cases s K x.l hbad)
            rw [← hs'] at HS'
            rw [hN] at c1'
            have HK := Lib.hid (show K ≤ 3000 by omega)
            have h6 : ¬ (3000 : Int) < (K : Int) := by omega
            have HLEN := Lib.hid hlen
            have HZ0 := Lib.hid HX.out.al.f.no
            have HCALL := Lib.hid hcall
            clear hcall hbad h3 hn2 hN hs' hlen h1
            go_wp2_with (fail)
            refine HCALL.out.mono ?_
            rintro e w8 ⟨rfl, hl⟩
            obtain ⟨T8, D8, hx8⟩ := HX.out.call hl
            have HX8 := Lib.hid hx8
            clear hl hx8 c0' c1' c2' c3' h6
            go_wp2_with (fail)
            by_cases hl0 : x.l = 0
            · have HL0 := Lib.hid hl0
              have hst := HX8.out
              rw [rdC_congr (d := wrC c0 K x.zs) (fun i hi => by rw [wrC, if_neg (by have := HLEN.out; omega)]), show s = s' by have := HS'.out; omega] at hst
              have HST := Lib.hid hst
              clear hst hl0
              go_loopw [5] (fun v5 wk => AlX w wk B b s' T8 D8 (wrC c0 K x.zs) v5 s' (rdC (wrC c0 K x.zs) 0 s') bx #[.int .i64 x.q, .int .i64 x.k, .int .i64 x.n, .slice x.a x.l x.c]) (fun _ _ => 0)
              case atStart => exact HST.out
              case round =>
                have HR := Lib.hid hrel
                have hcell := fun j => cell_of_row wr bx j _ _ (0, 0) hrel.row
                have e3 := hcell 3
                simp only [List.getElem?_toArray, List.getElem?_cons_zero, List.getElem?_cons_succ] at e3
                have hz : ¬ (0 : Int) < (x.l : Int) := by have := HL0.out; omega
                clear hrel hcell
                go_wp2_with (fail)
                go_loopw [9] (fun v9 wk => v9 = .int .i64 0 ∧ AlX w wk B b s' T8 D8 (wrC c0 K x.zs) _ s' (rdC (wrC c0 K x.zs) 0 s') bx #[.int .i64 x.q, .int .i64 x.k, .int .i64 x.n, .slice x.a x.l x.c]) (fun _ _ => 0)
                case atStart => exact ⟨rfl, HR.out⟩
                case round =>
                  obtain ⟨rfl, hr⟩ := hrel
                  have HR2 := Lib.hid hr
                  have hcell := fun j => cell_of_row wr bx j _ _ (0, 0) hr.row
                  have e3 := hcell 3
                  have e0 := hcell 0
                  simp only [List.getElem?_toArray, List.getElem?_cons_zero, List.getElem?_cons_succ] at e3 e0
                  rw [HQ1.out] at e0
                  clear hr hcell
                  go_wp2_with (fail)
                  go_roundw
                  case rel => exact ⟨i + 1, s', T8, D8, _, by omega, by go_num, HR2.out.al⟩
                  case measure => simp [RowKit.intOf]; omega
            · have HL0 := Lib.hid (show 0 < x.l by omega)
              clear hl0
              go_loopw [5] (fun v5 wk => ∃ m, s ≤ m ∧ m ≤ s' ∧ AlX w wk B b s' T8 D8 (wrC c0 K x.zs) v5 m (rdC c0 0 m) bx #[.int .i64 x.q, .int .i64 x.k, .int .i64 x.n, .slice x.a x.l x.c]) (fun v5 _ => s' - lenW v5)
              case atStart => exact ⟨s, by omega, by have := HS'.out; omega, HX8.out⟩
              case round =>
                obtain ⟨m, hm1, hm2, hxk⟩ := hrel
                have HXK := Lib.hid hxk
                have HSZ := Lib.hid hxk.al.f.sz
                obtain ⟨a8, cc8, rfl, _, _⟩ := hxk.al.o.pin
                have hcell := fun j => cell_of_row wr bx j _ _ (0, 0) hxk.row
                have e1 := hcell 1
                have e3 := hcell 3
                simp only [List.getElem?_toArray, List.getElem?_cons_zero, List.getElem?_cons_succ] at e1 e3
                rw [HNE.out] at e1
                have hz : (0 : Int) < (x.l : Int) := by have := HL0.out; omega
                have z1 : IntKind.i64.wrap ((K : Int) + (x.l : Int)) = ((K + x.l : Nat) : Int) := by rw [IntWalk.i64_in _ (by have := HK.out; have := HFW.out; omega)] <;> omega
                clear hxk hcell
                by_cases hlt4 : m < K + x.l
                · have HXJ := Lib.hid (HXK.out.next (alloc1 wr))
                  have HNW := Lib.hid (new0 wr)
                  have hgrow : ∀ v9 w9, Own w9 B v9 (m + 1) (rdC c0 0 m ++ [0]) → (wr.alloc (.cells #[.int .u8 0] 5)).grownBy w9 (Value.slice a8 m cc8).ownBlock → (∀ j, v9.ownBlock = some j → (Value.slice a8 m cc8).ownBlock = some j ∨ j = (wr.alloc (.cells #[.int .u8 0] 5)).heap.size) → AlX w w9 B b s' T8 D8 (wrC c0 K x.zs) v9 (m + 1) (rdC c0 0 (m + 1)) bx #[.int .i64 x.q, .int .i64 x.k, .int .i64 x.n, .slice x.a x.l x.c] := fun v9 w9 ho9 hg9 hv9 => HXJ.out.grow (by rw [rdC_succ, Nat.zero_add, HZ0.out m hm1]; exact ho9) hg9 hv9
                  have HGR := Lib.hid hgrow
                  have k9 : (m : Int) < ((K + x.l : Nat) : Int) := by omega
                  clear hgrow
                  go_wp2_with (at_builtin; go_must (refine wpList_ap1 rfl (.tmp 96) (.tmp 97) rfl B _ m (rdC c0 0 m) rfl HXJ.out.al.o wr.heap.size rfl HNW.out (by have := HSZ.out; omega) HXJ.out.al.bb.2 ?_); intro v9 w9 ho9 hg9 hv9)
                  have hx9 := HGR.out v9 w9 ho9 hg9 hv9
                  go_roundw
                  case rel => exact ⟨m + 1, by omega, by have := HS'.out; omega, hx9⟩
                  case measure => obtain ⟨a9, cc9, rfl, _, _⟩ := ho9.pin; simp [lenW]; have := HS'.out; omega
                · have k9 : ¬ (m : Int) < ((K + x.l : Nat) : Int) := by omega
                  obtain rfl : m = s' := by have := HS'.out; omega
                  obtain ⟨g, cap, hv, _⟩ := HXK.out.form (by have := HL0.out; omega)
                  cases hv
                  have hst := HXK.out
                  rw [show rdC c0 0 m = rdC (wrC c0 K (x.zs.take 0)) 0 m from rdC_congr fun i hi => by rw [wrC, if_neg (by simp <;> omega)]] at hst
                  have HST := Lib.hid hst
                  have HKM := Lib.hid (show K + x.l ≤ m by omega)
                  clear hst
                  go_wp2_with (fail)
                  go_loopw [9] (fun v9 wk => ∃ j, j ≤ x.l ∧ v9 = .int .i64 j ∧ AlX w wk B b m T8 D8 (wrC c0 K x.zs) (.slice (some ⟨g, 0, none⟩) m cc8) m (rdC (wrC c0 K (x.zs.take j)) 0 m) bx #[.int .i64 x.q, .int .i64 x.k, .int .i64 x.n, .slice x.a x.l x.c]) (fun v9 _ => x.l - (RowKit.intOf v9).toNat)
                  case atStart => exact ⟨0, by omega, rfl, HST.out⟩
                  case round =>
                    obtain ⟨j, hj, rfl, hxj⟩ := hrel
                    have HXJ := Lib.hid hxj
                    have hcell := fun j => cell_of_row wr bx j _ _ (0, 0) hxj.row
                    have e0 := hcell 0
                    have e1 := hcell 1
                    have e3 := hcell 3
                    simp only [List.getElem?_toArray, List.getElem?_cons_zero, List.getElem?_cons_succ] at e0 e1 e3
                    rw [HNE.out] at e1
                    rw [HQ1.out] at e0
                    clear hxj hcell
                    by_cases hlt5 : j < x.l
                    · rcases (HPW.out wr HXJ.out.al.be).bys.place with h0 | ⟨b2, o2, hxa, hl2, hb2⟩
                      · omega
                      have e4 := hb2 j hlt5
                      obtain ⟨g', cap', hv', hcf⟩ := HXJ.out.form (by have := HKM.out; omega)
                      cases hv'
                      have e5 := (hcf (K + j) (by have := HKM.out; omega)).1
                      have f5 := (hcf (K + j) (by have := HKM.out; omega)).2
                      generalize byt (rdC (wrC c0 K (x.zs.take j)) 0 m) (K + j) = y at e5
                      rw [hxa] at e3
                      obtain ⟨q, hq⟩ : ∃ q, q = K + j := ⟨_, rfl⟩
                      have z1 : IntKind.i64.wrap ((K : Int) + (j : Int)) = (q : Int) := by rw [IntWalk.i64_in _ (by have := HK.out; have := HFW.out; omega)]; omega
                      have k0 : (0 : Int) ≤ (j : Int) := by omega
                      have k1 : (j : Int) < (x.l : Int) := by omega
                      have k2 : (0 : Int) ≤ (q : Int) := by omega
                      have k3 : (q : Int) < (m : Int) := by have := HKM.out; omega
                      rw [← hq] at e5 f5
                      have HSTEP : Hid ((rdC (wrC c0 K (x.zs.take j)) 0 m).set q (byt x.zs j) = rdC (wrC c0 K (x.zs.take (j + 1))) 0 m) := Lib.hid (by rw [hq]; exact wr_step c0 K m x.zs (by rw [HLEN.out]; exact hlt5) (by rw [HLEN.out]; exact HKM.out))
                      clear hq
                      have HQX := Lib.hid hxa
                      clear hcf hb2 hl2 hxa e0
                      go_upto_region 25 with fail
                      refine wp_region_held_drew (S := (fun w' => w'.cell? ⟨bx, 1, none⟩ = some (.int .i64 (K : Int)) ∧ w'.cell? ⟨bx, 3, none⟩ = some (.slice (some ⟨b2, o2, none⟩) x.l x.c) ∧ w'.cell? ⟨b2, o2 + j, none⟩ = some (.int .u8 (byt x.zs j)))) (by kernel_rfl) ⟨e1, e3, e4⟩ (fun hHeld => ?_)
                      refine wpAnyH_take (i := 0) (v := ?_) rfl (by kernel_rfl) (by kernel_rfl) (by kernel_rfl) (fun _ _ _ h => h) (Or.inl ⟨by rfl, fun w hSw => ?_⟩) (by assumption) ?_
                      rotate_left
                      · (try dsimp only at hSw); go_simp; try with_reducible rfl
                      simp only [Act.put, List.setIfInBounds_toArray, List.set_cons_zero, List.set_cons_succ, List.getElem_toArray, List.getElem_cons_zero]
                      refine wpAnyH_take (i := 1) (v := ?_) rfl (by kernel_rfl) (by kernel_rfl) (by kernel_rfl) (fun _ _ _ h => h) (Or.inl ⟨by rfl, fun w hSw => ?_⟩) (by assumption) ?_
                      rotate_left
                      · (try dsimp only at hSw); go_simp; try with_reducible rfl
                      simp only [Act.put, List.setIfInBounds_toArray, List.set_cons_zero, List.set_cons_succ, List.getElem_toArray, List.getElem_cons_succ, List.getElem_cons_zero]
                      refine wpAnyH_take (i := 2) (v := ?_) rfl (by kernel_rfl) (by kernel_rfl) (by kernel_rfl) (fun _ _ _ h => h) (Or.inl ⟨by rfl, fun w hSw => ?_⟩) (by assumption) ?_
                      rotate_left
                      · (try dsimp only at hSw); go_simp; try with_reducible rfl
                      simp only [Act.put, List.setIfInBounds_toArray, List.set_cons_zero, List.set_cons_succ, List.getElem_toArray, List.getElem_cons_succ, List.getElem_cons_zero]
                      refine wpAnyH_take (i := 3) (v := ?_) rfl (by kernel_rfl) (by kernel_rfl) (by kernel_rfl) (fun _ _ _ h => h) (Or.inl ⟨by rfl, fun w hSw => ?_⟩) (by assumption) ?_
                      rotate_left
                      · (try dsimp only at hSw); go_simp; try with_reducible rfl
                      simp only [Act.put, List.setIfInBounds_toArray, List.set_cons_zero, List.set_cons_succ, List.getElem_toArray, List.getElem_cons_succ, List.getElem_cons_zero]
                      refine wpAnyH_take (i := 4) (v := ?_) rfl (by kernel_rfl) (by kernel_rfl) (by kernel_rfl) (fun _ _ _ h => h) (Or.inl ⟨by rfl, fun w hSw => ?_⟩) (by assumption) ?_
                      rotate_left
                      · (try dsimp only at hSw); go_simp; try with_reducible rfl
                      simp only [Act.put, List.setIfInBounds_toArray, List.set_cons_zero, List.set_cons_succ, List.getElem_toArray, List.getElem_cons_succ, List.getElem_cons_zero]
                      refine wpAnyH_take (i := 5) (v := ?_) rfl (by kernel_rfl) (by kernel_rfl) (by kernel_rfl) (fun _ _ _ h => h) (Or.inl ⟨by rfl, fun w hSw => ?_⟩) (by assumption) ?_
                      rotate_left
                      · (try dsimp only at hSw); go_simp; try with_reducible rfl
                      simp only [Act.put, List.setIfInBounds_toArray, List.set_cons_zero, List.set_cons_succ, List.getElem_toArray, List.getElem_cons_succ, List.getElem_cons_zero]
                      refine wpAnyH_take (i := 6) (v := ?_) rfl (by kernel_rfl) (by kernel_rfl) (by kernel_rfl) (fun _ _ _ h => h) (Or.inl ⟨by rfl, fun w hSw => ?_⟩) (by assumption) ?_
                      rotate_left
                      · (try dsimp only at hSw); go_simp; try with_reducible rfl
                      simp only [Act.put, List.setIfInBounds_toArray, List.set_cons_zero, List.set_cons_succ, List.getElem_toArray, List.getElem_cons_succ, List.getElem_cons_zero]
                      refine wpAnyH_take (i := 7) (v := ?_) rfl (by kernel_rfl) (by kernel_rfl) (by kernel_rfl) (fun _ _ _ h => h) (Or.inl ⟨by rfl, fun w hSw => ?_⟩) (by assumption) ?_
                      rotate_left
                      · (try dsimp only at hSw); go_simp; try with_reducible rfl
                      simp only [Act.put, List.setIfInBounds_toArray, List.set_cons_zero, List.set_cons_succ, List.getElem_toArray, List.getElem_cons_succ, List.getElem_cons_zero]
                      refine wpAnyH_take (i := 8) (v := ?_) rfl (by kernel_rfl) (by kernel_rfl) (by kernel_rfl) (fun _ _ _ h => h) (Or.inl ⟨by rfl, fun w hSw => ?_⟩) (by assumption) ?_
                      rotate_left
                      · (try dsimp only at hSw); go_simp; try with_reducible rfl
                      simp only [Act.put, List.setIfInBounds_toArray, List.set_cons_zero, List.set_cons_succ, List.getElem_toArray, List.getElem_cons_succ, List.getElem_cons_zero]
                      refine wpAnyH_take (i := 9) (v := ?_) rfl (by kernel_rfl) (by kernel_rfl) (by kernel_rfl) (fun _ _ _ h => h) (Or.inl ⟨by rfl, fun w hSw => ?_⟩) (by assumption) ?_
                      rotate_left
                      · (try dsimp only at hSw); go_simp; try with_reducible rfl
                      simp only [Act.put, List.setIfInBounds_toArray, List.set_cons_zero, List.set_cons_succ, List.getElem_toArray, List.getElem_cons_succ, List.getElem_cons_zero]
                      refine wpAnyH_take (i := 10) (v := ?_) rfl (by kernel_rfl) (by kernel_rfl) (by kernel_rfl) (fun _ _ _ h => h) (Or.inl ⟨by rfl, fun w hSw => ?_⟩) (by assumption) ?_
                      rotate_left
                      · (try dsimp only at hSw); go_simp; try with_reducible rfl
                      simp only [Act.put, List.setIfInBounds_toArray, List.set_cons_zero, List.set_cons_succ, List.getElem_toArray, List.getElem_cons_succ, List.getElem_cons_zero]
                      refine wpAnyH_ready (rs := [11]) (by kernel_rfl) (by simp) ?_
                      refine AllReadyH.cons rfl (fun K hK => ?_) AllReadyH.nil
                      simp only [List.getElem_toArray, List.getElem_cons_succ, List.getElem_cons_zero]
                      go_simp
                      have hx9 := (HXJ.out.next (show Below wr.heap.size wr wr.drew from below_drewN (Below.refl _ _) 1)).put q (byt_bd (HPW.out wr HXJ.out.al.be).bys.small j)
                      rw [HSTEP.out] at hx9
                      have HX9 := Lib.hid hx9
                      have hcell := fun j => cell_of_row _ bx j _ _ (0, 0) hx9.row
                      have t1 := hcell 1
                      have t3 := hcell 3
                      simp only [List.getElem?_toArray, List.getElem?_cons_zero, List.getElem?_cons_succ] at t1 t3
                      rw [HNE.out] at t1
                      rw [HQX.out] at t3
                      have t4 : (wr.drew.setCell ⟨g, q, none⟩ (.int .u8 (byt x.zs j))).cell? ⟨b2, o2 + j, none⟩ = some (.int .u8 (byt x.zs j)) := by
                        rcases (HPW.out _ hx9.al.be).bys.place with h0 | ⟨b3, o3, e, _, h⟩
                        · omega
                        · rw [HQX.out] at e
                          cases e
                          exact h j hlt5
                      refine hK.out _ _ ⟨t1, t3, t4⟩ (fun hHeld => ?_)
                      clear hK K hx9 hcell t1 t3 t4 e1 e3 e4 e5 f5
                      refine wpAnyH_done (by kernel_rfl) ?_ _
                      clear hHeld
                      obtain ⟨j1, hj1⟩ : ∃ j1, j1 = j + 1 := ⟨_, rfl⟩
                      have z9 : IntKind.i64.wrap ((j : Int) + 1) = (j1 : Int) := by rw [IntWalk.i64_in _ (by have := HFW.out; omega)]; omega
                      have HJ1 := Lib.hid hj1
                      clear hj1
                      go_wp2_with (fail)
                      go_roundw
                      case rel => exact ⟨j1, by have := HJ1.out; omega, rfl, by rw [HJ1.out]; exact HX9.out⟩
                      case measure => simp [RowKit.intOf]; have := HJ1.out; omega
                    · obtain rfl : j = x.l := by omega
                      have hfin := HXJ.out.al
                      rw [← HLEN.out, List.take_length] at hfin
                      have HFIN := Lib.hid hfin
                      clear hfin
                      go_wp2_with (fail)
                      go_roundw
                      case rel => exact ⟨i + 1, m, T8, D8, _, by omega, by go_num, HFIN.out⟩
                      case measure => simp [RowKit.intOf]; omega
        · have q1 : (x.q == 1) = false := by simpa using h1
          by_cases h2 : x.q = 2
          · rw [h2] at c0'
            clear h1 q1
            by_cases h3 : 3000 < x.n ∧ x.n ≤ 46368
            · obtain ⟨h3, h4⟩ := h3
              go_wp2_with (fail)
              go_ret
              exact ⟨rfl, HX.out.al.be⟩
            by_cases hbad : trBad x.n = true
            · have hn2 : x.n < 0 ∨ 46368 < x.n := by
                unfold trBad at hbad
                rw [Bool.or_eq_true, decide_eq_true_eq, decide_eq_true_eq] at hbad
                exact hbad
              have hcall := HX.out.al.f.trunc x.n
              rw [if_pos hbad, if_pos hbad, if_pos hbad] at hcall
              have HCALL := Lib.hid hcall
              clear hcall hbad h3
              rcases hn2 with h5 | h5
              · have h6 : ¬ 3000 < x.n := by omega
                have h7 : ¬ 0 ≤ x.n := by omega
                go_wp2_with (fail)
                refine HCALL.out.mono ?_
                rintro e w8 ⟨rfl, hl⟩
                obtain ⟨T8, D8, hx8⟩ := HX.out.call hl
                have HX8 := Lib.hid hx8
                have hcell := cell_of_row w8 bx 2 _ _ (0, 0) hx8.row
                simp only [List.getElem?_toArray, List.getElem?_cons_zero, List.getElem?_cons_succ] at hcell
                clear hl hx8 c0' c1' c2' c3'
                go_wp2_with (fail)
                go_roundw
                case rel => exact ⟨i + 1, s, T8, D8, c0, by omega, by go_num, HX8.out.al⟩
                case measure => simp [RowKit.intOf]; omega
              · have h6 : 3000 < x.n := by omega
                have h8 : ¬ x.n ≤ 46368 := by omega
                have h7 : 0 ≤ x.n := by omega
                have h9 : ¬ x.n ≤ 3000 := by omega
                go_wp2_with (fail)
                refine HCALL.out.mono ?_
                rintro e w8 ⟨rfl, hl⟩
                obtain ⟨T8, D8, hx8⟩ := HX.out.call hl
                have HX8 := Lib.hid hx8
                have hcell := cell_of_row w8 bx 2 _ _ (0, 0) hx8.row
                simp only [List.getElem?_toArray, List.getElem?_cons_zero, List.getElem?_cons_succ] at hcell
                clear hl hx8 c0' c1' c2' c3'
                go_wp2_with (fail)
                go_roundw
                case rel => exact ⟨i + 1, s, T8, D8, c0, by omega, by go_num, HX8.out.al⟩
                case measure => simp [RowKit.intOf]; omega
            · have hn2 : 0 ≤ x.n ∧ x.n ≤ 3000 := by
                unfold trBad at hbad
                rw [Bool.or_eq_true, decide_eq_true_eq, decide_eq_true_eq] at hbad
                omega
              have hcall := HX.out.al.f.trunc x.n
              rw [if_neg hbad, if_neg hbad, if_neg hbad] at hcall
              obtain ⟨N, hN⟩ : ∃ N : Nat, x.n = (N : Int) := Int.eq_ofNat_of_zero_le hn2.1
              rw [hN, Int.toNat_natCast] at hcall
              rw [hN] at c2'
              have HN := Lib.hid (show N ≤ 3000 by omega)
              have h6 : ¬ (3000 : Int) < (N : Int) := by omega
              have HNE := Lib.hid hN
              have HZ0 := Lib.hid HX.out.al.f.no
              have HCALL := Lib.hid hcall
              clear hcall hbad h3 hn2 hN
              go_wp2_with (fail)
              refine HCALL.out.mono ?_
              rintro e w8 ⟨rfl, hl⟩
              obtain ⟨T8, D8, hx8⟩ := HX.out.call hl
              have HX8 := Lib.hid hx8
              clear hl hx8 c0' c1' c2' c3' h6
              go_wp2_with (fail)
              go_loopw [5] (fun v5 wk => ∃ m, s ≤ m ∧ (m ≤ s ∨ m ≤ N) ∧ AlX w wk B b N T8 D8 (trC c0 N) v5 m (rdC c0 0 m) bx #[.int .i64 x.q, .int .i64 x.k, .int .i64 x.n, .slice x.a x.l x.c]) (fun v5 _ => N - lenW v5)
              case atStart => exact ⟨s, by omega, .inl (by omega), HX8.out⟩
              case round =>
                obtain ⟨m, hm1, hm2, hxk⟩ := hrel
                have HXK := Lib.hid hxk
                obtain ⟨a8, cc8, rfl, _, _⟩ := hxk.al.o.pin
                have hcell := cell_of_row wr bx 2 _ _ (0, 0) hxk.row
                simp only [List.getElem?_toArray, List.getElem?_cons_zero, List.getElem?_cons_succ] at hcell
                rw [HNE.out] at hcell
                clear hxk
                by_cases hlt4 : m < N
                · have HXJ := Lib.hid (HXK.out.next (alloc1 wr))
                  have HNW := Lib.hid (new0 wr)
                  have hgrow : ∀ v9 w9, Own w9 B v9 (m + 1) (rdC c0 0 m ++ [0]) → (wr.alloc (.cells #[.int .u8 0] 5)).grownBy w9 (Value.slice a8 m cc8).ownBlock → (∀ j, v9.ownBlock = some j → (Value.slice a8 m cc8).ownBlock = some j ∨ j = (wr.alloc (.cells #[.int .u8 0] 5)).heap.size) → AlX w w9 B b N T8 D8 (trC c0 N) v9 (m + 1) (rdC c0 0 (m + 1)) bx #[.int .i64 x.q, .int .i64 x.k, .int .i64 x.n, .slice x.a x.l x.c] := fun v9 w9 ho9 hg9 hv9 => HXJ.out.grow (by rw [rdC_succ, Nat.zero_add, HZ0.out m hm1]; exact ho9) hg9 hv9
                  have HGR := Lib.hid hgrow
                  clear hgrow
                  go_wp2_with (at_builtin; go_must (refine wpList_ap1 rfl (.tmp 151) (.tmp 152) rfl B _ m (rdC c0 0 m) rfl HXJ.out.al.o wr.heap.size rfl HNW.out (by have := HN.out; have := HS.out; omega) HXJ.out.al.bb.2 ?_); intro v9 w9 ho9 hg9 hv9)
                  have hx9 := HGR.out v9 w9 ho9 hg9 hv9
                  go_roundw
                  case rel => exact ⟨m + 1, by omega, .inr (by omega), hx9⟩
                  case measure => obtain ⟨a9, cc9, rfl, _, _⟩ := ho9.pin; simp [lenW]; omega
                · have hf := HXK.out.al.front (k := N) (by omega)
                  rw [rdC_congr (d := trC c0 N) (fun i hi => by rw [Nat.zero_add, trC, if_pos hi])] at hf
                  have HF := Lib.hid hf.1
                  have g1 : (0 : Int) ≤ (N : Int) := by omega
                  have g2 : (N : Int) ≤ (cc8 : Int) := by have := hf.2; omega
                  clear hf
                  go_wp2_with (fail)
                  go_roundw
                  case rel => exact ⟨i + 1, N, T8, D8, trC c0 N, by omega, by go_num, HF.out⟩
                  case measure => simp [RowKit.intOf]; omega
          · have q2 : (x.q == 2) = false := by simpa using h2
            clear h1 h2
            go_wp2_with (fail)
            go_roundw
            case rel => exact ⟨i + 1, s, T, D, c0, by omega, by go_num, HX.out.al⟩
            case measure => simp [RowKit.intOf]; omega
      · obtain rfl : i = n := by omega
        have hr := HA.out.f.read 0 100000 (by omega) (by omega)
        rw [Nat.sub_zero, show Nat.min 100000 s = s from Nat.min_eq_right (by have := HS.out; omega)] at hr
        have HRD := Lib.hid hr
        obtain ⟨a5, c5, rfl, hp5, _⟩ := HA.out.o.pin
        have HP0 := Lib.hid hp5
        clear hr hp5
        go_wp2_with (fail)
        refine HRD.out.mono ?_
        rintro e w6 ⟨a6, m6, c6, rfl, hp6, _, hb6⟩
        obtain rfl : s = m6 := by have := hp6.len; rw [rdC_len] at this; omega
        have HP6 := Lib.hid hp6
        have HA6 := Lib.hid (HA.out.next hb6)
        have HP5 := Lib.hid (HP0.out.next hb6)
        clear hp6 hb6
        go_wp2_with (fail)
        have hm := same_any a6 a5 s c6 s c5 _ _ w6 HP6.out.bys HP5.out.bys (by have := HS.out; omega)
        rw [sameB_true rfl] at hm
        refine hm.mono ?_
        rintro e w7 ⟨rfl, q, rfl⟩
        obtain ⟨w7, hw7⟩ : ∃ w7, w7 = w6.drewN q := ⟨_, rfl⟩
        rw [← hw7]
        have hb7 : Below w6.heap.size w6 w7 := by rw [hw7]; exact below_drewN (Below.refl _ _) q
        have HA7 := Lib.hid (HA6.out.next hb7)
        have HP7 := Lib.hid (HP5.out.next hb7)
        clear hm hb7 hw7
        go_wp2_with (fail)
        refine HA7.out.f.size.mono ?_
        rintro e w8 ⟨rfl, rfl⟩
        go_wp2_with (fail)
        go_loopw [12, 13, 14, 15] (fun v12 v13 _ _ wr => wr = w7 ∧ ∃ k : Nat, k ≤ 828 ∧ v13 = .int .i64 k ∧ v12 = .int .i64 ((selL (theP (fun _ => 0) (cX c0)) k).length : Nat)) (fun _ v13 _ _ _ => 828 - (RowKit.intOf v13).toNat)
        case atStart => exact ⟨rfl, 0, by omega, rfl, rfl⟩
        case round =>
          obtain ⟨rfl, k, hk, rfl, rfl⟩ := hrel
          obtain ⟨q2, hq2⟩ : ∃ q2, q2 = k * 56 := ⟨_, rfl⟩
          have z1 : IntKind.i64.wrap ((k : Int) * 56) = (q2 : Int) := by rw [IntWalk.i64_in _ (by omega)]; omega
          have HQ := Lib.hid hq2
          have HSL := Lib.hid (selL_len (theP (fun _ => 0) (cX c0)) k)
          obtain ⟨L, hL⟩ : ∃ L, L = (selL (theP (fun _ => 0) (cX c0)) k).length := ⟨_, rfl⟩
          rw [← hL] at HSL ⊢
          have HLE := Lib.hid hL
          clear hL hq2
          by_cases hlt : q2 < s
          · go_wp2_with (fail)
            go_loopw [14, 15] (fun v14 v15 wx => wx = wr ∧ ∃ m y : Nat, y = q2 + m ∧ m ≤ 56 ∧ y ≤ s ∧ v15 = .int .i64 (y : Int) ∧ v14 = .bool (smC c0 q2 m)) (fun _ v15 _ => q2 + 56 - (RowKit.intOf v15).toNat)
            case atStart => exact ⟨rfl, 0, q2, rfl, by omega, by omega, rfl, rfl⟩
            case round =>
              obtain ⟨rfl, m, y, hy, hm, hms, rfl, rfl⟩ := hrel
              obtain ⟨q3, hq3⟩ : ∃ q3, q3 = q2 + 56 := ⟨_, rfl⟩
              have z2 : IntKind.i64.wrap ((q2 : Int) + 56) = (q3 : Int) := by rw [IntWalk.i64_in _ (by have := HS.out; omega)]; omega
              obtain ⟨y1, hy1⟩ : ∃ y1, y1 = y + 1 := ⟨_, rfl⟩
              have z4 : IntKind.i64.wrap ((y : Int) + 1) = (y1 : Int) := by rw [IntWalk.i64_in _ (by have := HS.out; omega)]; omega
              obtain ⟨L1, hL1⟩ : ∃ L1, L1 = L + 1 := ⟨_, rfl⟩
              have z3 : IntKind.i64.wrap ((L : Int) + 1) = (L1 : Int) := by rw [IntWalk.i64_in _ (by have := HSL.out; omega)]; omega
              have HY := Lib.hid (show y = q2 + m ∧ q3 = q2 + 56 ∧ y1 = y + 1 ∧ L1 = L + 1 from ⟨hy, hq3, hy1, hL1⟩)
              clear hy hq3 hy1 hL1
              by_cases h6 : y < s
              · by_cases h7 : m < 56
                · have k6 : (y : Int) < (s : Int) := by omega
                  have k7 : (y : Int) < (q3 : Int) := by have := HY.out; omega
                  have k8 : (0 : Int) ≤ (y : Int) := by omega
                  rcases HP7.out.bys.place with h0 | ⟨b5, o5, rfl, hl5, hb5⟩
                  · omega
                  have e5 := hb5 y h6
                  rw [rdC_byt c0 0 h6, Nat.zero_add] at e5
                  have HSU := Lib.hid (smC_succ c0 q2 m)
                  rw [← HY.out.1] at HSU
                  clear hb5 hl5
                  cases hsm : smC c0 q2 m with
                  | true =>
                    rw [hsm] at HSU
                    clear hsm
                    go_wp2_with (fail)
                    go_roundw
                    case rel => exact ⟨by trivial, m + 1, y1, by have := HY.out; omega, by omega, by have := HY.out; omega, rfl, by rw [HSU.out]; rfl⟩
                    case measure => simp [RowKit.intOf]; have := HY.out; omega
                  | false =>
                    rw [hsm, Bool.false_or] at HSU
                    clear hsm
                    by_cases hc : c0 y = 0
                    · rw [hc] at e5
                      have HV : Hid (smC c0 q2 (m + 1) = false) := Lib.hid (by rw [HSU.out, hc]; rfl)
                      clear hc
                      go_wp2_with (fail)
                      go_roundw
                      case rel => exact ⟨by trivial, m + 1, y1, by have := HY.out; omega, by omega, by have := HY.out; omega, rfl, by rw [HV.out]⟩
                      case measure => simp [RowKit.intOf]; have := HY.out; omega
                    · have hc1 : (c0 y != 0) = true := by simpa using hc
                      have HV : Hid (smC c0 q2 (m + 1) = true) := Lib.hid (by rw [HSU.out]; exact hc1)
                      go_wp2_with (fail)
                      go_roundw
                      case rel => exact ⟨by trivial, m + 1, y1, by have := HY.out; omega, by omega, by have := HY.out; omega, rfl, by rw [HV.out]⟩
                      case measure => simp [RowKit.intOf]; have := HY.out; omega
                · have k6 : (y : Int) < (s : Int) := by omega
                  have k7 : ¬ (y : Int) < (q3 : Int) := by have := HY.out; omega
                  have hPk := theP_sm c0 (k := k) HQ.out hm (.inl (by omega))
                  cases hsm : smC c0 q2 m with
                  | true =>
                    rw [hsm] at hPk
                    have hl : (selL (theP (fun _ => 0) (cX c0)) (k + 1)).length = L1 := by rw [selL_yes hPk.symm, List.length_append, ← HLE.out, HY.out.2.2.2]; rfl
                    have HLL := Lib.hid hl
                    clear hPk hl hsm
                    go_wp2_with (fail)
                    go_roundw
                    case rel => exact ⟨by trivial, k + 1, by have := HQ.out; have := HS.out; omega, by go_num, by rw [HLL.out]⟩
                    case measure => simp [RowKit.intOf]; have := HQ.out; have := HS.out; omega
                  | false =>
                    rw [hsm] at hPk
                    have hl : (selL (theP (fun _ => 0) (cX c0)) (k + 1)).length = L := by rw [selL_no hPk.symm, ← HLE.out]
                    have HLL := Lib.hid hl
                    clear hPk hl hsm
                    go_wp2_with (fail)
                    go_roundw
                    case rel => exact ⟨by trivial, k + 1, by have := HQ.out; have := HS.out; omega, by go_num, by rw [HLL.out]⟩
                    case measure => simp [RowKit.intOf]; have := HQ.out; have := HS.out; omega
              · have k6 : ¬ (y : Int) < (s : Int) := by omega
                have hPk := theP_sm c0 (k := k) HQ.out hm (.inr fun i hi => HA7.out.f.no i (by have := HY.out; omega))
                cases hsm : smC c0 q2 m with
                | true =>
                  rw [hsm] at hPk
                  have hl : (selL (theP (fun _ => 0) (cX c0)) (k + 1)).length = L1 := by rw [selL_yes hPk.symm, List.length_append, ← HLE.out, HY.out.2.2.2]; rfl
                  have HLL := Lib.hid hl
                  clear hPk hl hsm
                  go_wp2_with (fail)
                  go_roundw
                  case rel => exact ⟨by trivial, k + 1, by have := HQ.out; have := HS.out; omega, by go_num, by rw [HLL.out]⟩
                  case measure => simp [RowKit.intOf]; have := HQ.out; have := HS.out; omega
                | false =>
                  rw [hsm] at hPk
                  have hl : (selL (theP (fun _ => 0) (cX c0)) (k + 1)).length = L := by rw [selL_no hPk.symm, ← HLE.out]
                  have HLL := Lib.hid hl
                  clear hPk hl hsm
                  go_wp2_with (fail)
                  go_roundw
                  case rel => exact ⟨by trivial, k + 1, by have := HQ.out; have := HS.out; omega, by go_num, by rw [HLL.out]⟩
                  case measure => simp [RowKit.intOf]; have := HQ.out; have := HS.out; omega
          · have he := selL_ext (theP (fun _ => 0) (cX c0)) (k := k) (N := 828) hk fun j hj => theP_none c0 fun i hi => HA7.out.f.no _ (by have := HQ.out; omega)
            have HEX := Lib.hid he
            obtain ⟨p, fr, hat⟩ := HA7.out.f.at'
            have HAT := Lib.hid hat
            clear he hat
            go_wp2_with (fail)
            refine (fmap_any HAT.out).mono ?_
            rintro e w9 ⟨rfl, rfl⟩
            go_wp2_with (fail)
            refine (pmp_ok.there HAT.out.mp).mono ?_
            rintro e w9 ⟨a9, c9, rfl, _, _, hb9⟩
            rw [HEX.out, ← HLE.out]
            have HB9 := Lib.hid (HA7.out.be.trans (hb9.mono HA7.out.be.size))
            clear hb9
            go_wp2_with (fail)
            go_ret
            exact ⟨rfl, HB9.out⟩
end Go.Proofs.Ytegcjpocdfmpfaa
