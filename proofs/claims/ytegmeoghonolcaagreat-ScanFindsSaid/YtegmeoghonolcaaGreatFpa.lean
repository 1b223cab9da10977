/-
  What Look finds of segments that were written one behind the other.
-/
import Derived.Test.YtegmeoghonolcaaGreatLoa
import Derived.Test.YtegmeoghonolcaaGreatSwa
import Derived.Test.YtegmeoghonolcaaGreatKma
set_option linter.unusedSimpArgs false
set_option linter.unusedVariables false
namespace Go.Proofs.YtegmeoghonolcaaGreat
open Go.RowKit Go.Maps
set_option linter.unusedVariables false
section
variable {B : Bn} {R : Rk} {bd : Nat → Bool} {X : Nat → Nat → List Int} {g : Nat} {q : Int}
/-- A segment that was never written is not whole. -/
theorem Vw.wholeNot (h : Vw B R bd bd X) (hg : g < 12) (hz : ∀ s, s < 3 → decN (X s (5 + (3 * g + 0))) 0 4 = 0) (hc : cntB bd ≤ 1) : whR B R 3 3 g = none := by
  have hS : ∀ c u, c < 3 → bd (slt (3 * g + 0) c) = false → whS B R (badL B R 3) ((5 + (3 * g + 0) : Nat) : Int) (rowD 3 ((3 * g + 0 : Nat) : Int) c) u = none := fun c u hc hb => by
    have hlt := slt_lt (3 * g + 0) c
    rw [rowD_slt]
    unfold whS
    rw [if_neg (fun x => by rw [(h.bad.1 _ hlt).1 x] at hb; cases hb), h.ld hlt (by omega), hb, if_neg (by simp), (h.yes _ _ hlt (by omega) hb).2, hz _ hlt, if_pos (.inl rfl)]
  have hrow : ∀ u, whC B R (badL B R 3) (rowD 3 ((3 * g + 0 : Nat) : Int)) ((5 + (3 * g + 0) : Nat) : Int) u 3 = none := fun u => by
    cases b0 : bd (slt (3 * g + 0) 0) with
    | false =>
      refine whC_none (c := 1) (by omega) ?_
      show (some u).bind (whS B R (badL B R 3) ((5 + (3 * g + 0) : Nat) : Int) (rowD 3 ((3 * g + 0 : Nat) : Int) 0)) = none
      rw [Option.bind_some]
      exact hS 0 u (by omega) b0
    | true =>
      have b1 : bd (slt (3 * g + 0) 1) = false := by
        cases h1 : bd (slt (3 * g + 0) 1) with
        | false => rfl
        | true =>
          have := cnt_two (slt_lt (3 * g + 0) 0) (slt_lt (3 * g + 0) 1) (by unfold slt; omega) b0 h1
          omega
      refine whC_none (c := 2) (by omega) ?_
      have hb : ∀ o : Option Int, o.bind (whS B R (badL B R 3) ((5 + (3 * g + 0) : Nat) : Int) (rowD 3 ((3 * g + 0 : Nat) : Int) 1)) = none := fun o => by
        cases o with
        | none => rfl
        | some v => exact hS 1 v (by omega) b1
      exact hb _
  unfold whR
  rw [h.chk (h.seg hg), if_pos rfl, h.two, if_neg (by simp; omega)]
  have e0 : whG B R 3 g 1 = none := by
    show (some 0).bind (fun u => whC B R (badL B R 3) (rowD 3 ((g : Int) * B.r + ((0 : Nat) : Int))) (5 + ((g : Int) * B.r + ((0 : Nat) : Int))) u 3) = none
    rw [Option.bind_some, h.at, h.at2]
    exact hrow 0
  have e : whG B R 3 g 3 = ((whG B R 3 g 1).bind fun u => whC B R (badL B R 3) (rowD 3 ((g : Int) * B.r + ((1 : Nat) : Int))) (5 + ((g : Int) * B.r + ((1 : Nat) : Int))) u 3).bind fun u => whC B R (badL B R 3) (rowD 3 ((g : Int) * B.r + ((2 : Nat) : Int))) (5 + ((g : Int) * B.r + ((2 : Nat) : Int))) u 3 := rfl
  rw [e, e0]
  rfl
theorem Vw.lkNot (h : Vw B R bd bd X) (hg : g < 12) (hz : ∀ s, s < 3 → decN (X s (5 + (3 * g + 0))) 0 4 = 0) (hc : cntB bd ≤ 1) : lkI B R g = none := by
  unfold lkI
  rw [h.wholeNot hg hz hc]
theorem sumL_pad (c i n t : Int) : padL (sumL c i n t) 56 = sumL c i n t := by
  unfold padL
  rw [sumL_len]
  simp
/-- A segment that was written tells its summary. -/
theorem Vw.lkYes (h : Vw B R bd bd X) (hg : g < 12) (hw : Whl X g q) (hq : q ≠ 0) (hc : cntB bd ≤ 1) {c i n t : Int} (hs : SumR 3 3 12 c i n t) {fb : Nat → BlP} {nb : Nat} (he : encB q fb nb 6 = true)
    (hz : X (slt (3 * g + 0 / 2) (0 % 2)) (5 + (3 * g + 0 / 2)) = enS q fb nb 0) (ho : (blkAt fb nb 0).o = 65535) (hi : (blkAt fb nb 0).i = 0) (hp : (blkAt fb nb 0).p.zs = sumL c i n t) : lkI B R g = some ⟨g, q, c, i, n, t⟩ := by
  have hu : (∀ s, s < 3 → s ≠ slt (3 * g + 0 / 2) (0 % 2) → bd s = false) ∨ bd (slt (3 * g + 0 / 2) (0 % 2)) = false := by
    cases hb : bd (slt (3 * g + 0 / 2) (0 % 2)) with
    | false => exact .inr rfl
    | true =>
      refine .inl fun s hs hne => ?_
      cases h1 : bd s with
      | false => rfl
      | true =>
        have := cnt_two hs (slt_lt (3 * g + 0 / 2) (0 % 2)) hne h1 hb
        omega
  have hwh := h.whole hg hw hq (fun _ _ x => x) hc
  have hrd := (h.read hg hw (k := 0) (by omega) hu).2
  have hrd' : rbL B R 3 (g : Int) 0 q = enS q fb nb 0 := hrd.trans hz
  obtain ⟨d1, d2, dl, dn⟩ := blk_read he (k := 0) (by omega) hrd'
  rw [hp, sumL_pad] at dl
  obtain ⟨t1, t2, t3, t4⟩ := tv_sum hs.small.1 hs.small.2.1 hs.small.2.2.1 hs.small.2.2.2
  have hS : lkS B R g q = true := by
    unfold lkS
    rw [h.d, h.r, h.s, d1, d2, ho, hi, dn, dl]
    exact gsO_put hs
  have hT : ∀ k, lkT B R g q k = tv 56 (sumL c i n t) k := fun k => by
    unfold lkT
    rw [dn, dl]
  unfold lkI
  rw [hwh]
  simp only [hS, if_true, hT, t1, t2, t3, t4]
theorem lkL_all {N : Nat} (hN : N ≤ 12) {f : Nat → Inf} (hy : ∀ g : Nat, g < N → lkI B R (g : Int) = some (f g)) (hn : ∀ g : Nat, N ≤ g → g < 12 → lkI B R (g : Int) = none) : lkL B R 12 = (List.range N).map f := by
  have step : ∀ k, k ≤ 12 → lkL B R k = (List.range (min k N)).map f := by
    intro k
    induction k with
    | zero => intro _; simp [lkL]
    | succ k ih =>
      intro hk
      by_cases h1 : k < N
      · rw [lkL_yes (hy k h1), ih (by omega), show min (k + 1) N = min k N + 1 by omega, List.range_succ, List.map_append, show min k N = k by omega]
        rfl
      · rw [lkL_no (hn k (by omega) (by omega)), ih (by omega), show min (k + 1) N = min k N by omega]
  rw [step 12 (Nat.le_refl _), show min 12 N = N by omega]

/-- The greatest Seq. -/
theorem mxL_up {v : Int} : ∀ (ls : List (List Int)) (m : Int), m ≤ v → (∀ x ∈ ls, decN x 0 4 ≤ v) → (m = v ∨ ∃ x ∈ ls, decN x 0 4 = v) → mxL m ls = v
  | [], m, hm, _, h => by
    rcases h with h | ⟨x, hx, _⟩
    · exact h
    · cases hx
  | y :: ls, m, hm, hl, h => by
    show mxL (max m (decN y 0 4)) ls = v
    have hy := hl y (List.mem_cons_self ..)
    refine mxL_up ls _ (by omega) (fun x hx => hl x (List.mem_cons_of_mem _ hx)) ?_
    rcases h with h | ⟨x, hx, e⟩
    · left; omega
    · rcases List.mem_cons.1 hx with rfl | hx
      · left; omega
      · exact .inr ⟨x, hx, e⟩
end
section
variable {R : Rk} {bad : Nat → Bool} {C : Nat → Nat → List Int}
theorem alL_mem {B : Bn} {k : Int} {x : List Int} : ∀ n, x ∈ alL B k R n ↔ ∃ i : Nat, i < n ∧ R.rdE (B.disk (i : Int)) k = 0 ∧ R.rdV (B.disk (i : Int)) k = x
  | 0 => by simp [alL]
  | n + 1 => by
    have ih := alL_mem (B := B) (k := k) (x := x) n
    unfold alL
    split
    · rename_i h0
      rw [List.mem_append, List.mem_singleton, ih]
      constructor
      · rintro (⟨i, hi, h⟩ | h)
        · exact ⟨i, by omega, h⟩
        · exact ⟨n, by omega, h0, h.symm⟩
      · rintro ⟨i, hi, h1, h2⟩
        rcases (by omega : i < n ∨ i = n) with h3 | rfl
        · exact .inl ⟨i, h3, h1, h2⟩
        · exact .inr h2.symm
    · rename_i h0
      rw [ih]
      constructor
      · rintro ⟨i, hi, h⟩
        exact ⟨i, by omega, h⟩
      · rintro ⟨i, hi, h1, h2⟩
        rcases (by omega : i < n ∨ i = n) with h3 | rfl
        · exact ⟨i, h3, h1, h2⟩
        · exact absurd h1 h0
theorem b0_disk (i : Nat) : B0.disk (i : Int) = (i : Int) := by
  unfold Bn.disk
  rw [if_neg (by simp)]
/-- What any disk tells of a sector. -/
theorem Vd.al (h : Vd R 4 41 bad noD C) {k : Nat} (hk : k < 41) (x : List Int) : x ∈ alL B0 (k : Int) R B0.num ↔ ∃ i : Nat, i < 4 ∧ bad i = false ∧ C i k = x := by
  have hn : B0.num = 4 := rfl
  rw [hn, alL_mem]
  constructor
  · rintro ⟨i, hi, h1, h2⟩
    rw [b0_disk] at h1 h2
    obtain ⟨f1, f2⟩ := h.rdd hi hk
    have hb : bad i = false := by
      cases hb : bad i with
      | false => rfl
      | true => rw [f1, hb] at h1; cases h1
    rw [f2 hb] at h2
    exact ⟨i, hi, hb, h2⟩
  · rintro ⟨i, hi, hb, h2⟩
    obtain ⟨f1, f2⟩ := h.rdd hi hk
    refine ⟨i, hi, ?_, ?_⟩
    · rw [b0_disk, f1, hb]; rfl
    · rw [b0_disk, f2 hb]; exact h2
end
end Go.Proofs.YtegmeoghonolcaaGreat

/-
  Segments that are written one behind the other, on a rack that was new.
-/
namespace Go.Proofs.YtegmeoghonolcaaGreat
open Go.RowKit Go.Maps
set_option linter.unusedVariables false

/-- The first segments tell the infos of L, the others nothing. -/
structure Wtn (C : Nat → Nat → List Int) (q0 : Int) (L : List Inf) : Prop where
  whl : ∀ (g : Nat) (x : Inf), L[g]? = some x → x.g = (g : Int) ∧ x.q = q0 + g ∧ Whl C g x.q ∧ SumR 3 3 12 x.c x.i x.b x.r
  blk : ∀ (g : Nat) (x : Inf), L[g]? = some x → ∃ fb nb, encB x.q fb nb 6 = true ∧ C (slt (3 * g + 0 / 2) (0 % 2)) (5 + (3 * g + 0 / 2)) = enS x.q fb nb 0 ∧ (blkAt fb nb 0).o = 65535 ∧ (blkAt fb nb 0).i = 0 ∧ (blkAt fb nb 0).p.zs = sumL x.c x.i x.b x.r
  off : ∀ i k, i < 3 → 5 + 3 * L.length ≤ k → k < 41 → decN (C i k) 0 4 = 0
  sp : ∀ k, k < 41 → decN (C 3 k) 0 4 = 0
  few : L.length ≤ 12
theorem dec_zero : decN (List.replicate 64 0) 0 4 = 0 := by decide
theorem Wtn.zero (q0 : Int) : Wtn (fun _ _ => List.replicate 64 0) q0 [] :=
  ⟨fun g x h => by simp at h, fun g x h => by simp at h, fun _ _ _ _ _ => dec_zero, fun _ _ => dec_zero, Nat.zero_le _⟩
theorem Wtn.next {C : Nat → Nat → List Int} {q0 : Int} {L : List Inf} (h : Wtn C q0 L) {x : Inf} {fb : Nat → BlP} {nb : Nat} (hn : L.length < 12) (e1 : x.g = (L.length : Int)) (e2 : x.q = q0 + (L.length : Int)) (hs : SumR 3 3 12 x.c x.i x.b x.r)
    (he : encB x.q fb nb 6 = true) (hb : ∀ j, j < nb → AllB (fb j).p.zs) (ho : (blkAt fb nb 0).o = 65535) (hi : (blkAt fb nb 0).i = 0) (hp : (blkAt fb nb 0).p.zs = sumL x.c x.i x.b x.r) : Wtn (wrS C L.length x.q fb nb 3) q0 (L ++ [x]) := by
  have hget : ∀ (g : Nat) (y : Inf), (L ++ [x])[g]? = some y → (g < L.length ∧ L[g]? = some y) ∨ (g = L.length ∧ y = x) := fun g y hy => by
    rcases Nat.lt_trichotomy g L.length with h1 | h1 | h1
    · rw [List.getElem?_append_left h1] at hy
      exact .inl ⟨h1, hy⟩
    · rw [List.getElem?_append_right (by omega), h1, Nat.sub_self] at hy
      exact .inr ⟨h1, (Option.some.inj hy).symm⟩
    · rw [List.getElem?_eq_none (by simp; omega)] at hy
      cases hy
  refine ⟨fun g y hy => ?_, fun g y hy => ?_, fun i k hi hk hk2 => ?_, fun k hk => ?_, by simp; omega⟩
  · rcases hget g y hy with ⟨h1, h2⟩ | ⟨rfl, rfl⟩
    · obtain ⟨a1, a2, a3, a4⟩ := h.whl g y h2
      exact ⟨a1, a2, wrS_off (by omega) a3, a4⟩
    · exact ⟨e1, e2, wrS_whl he hb, hs⟩
  · rcases hget g y hy with ⟨h1, h2⟩ | ⟨rfl, rfl⟩
    · obtain ⟨fb', nb', b1, b2, b3⟩ := h.blk g y h2
      refine ⟨fb', nb', b1, ?_, b3⟩
      rw [← b2]
      unfold wrS
      rw [if_neg (by omega)]
    · exact ⟨fb, nb, he, wrS_blk (k := 0) (by omega), ho, hi, hp⟩
  · rw [List.length_append] at hk
    have hk' : 5 + 3 * (L.length + 1) ≤ k := hk
    unfold wrS
    rw [if_neg (by omega)]
    exact h.off i k hi (by omega) hk2
  · unfold wrS
    rw [if_neg (by omega)]
    exact h.sp k hk
section
variable {R : Rk} {bad : Nat → Bool} {C : Nat → Nat → List Int} {q0 : Int} {L : List Inf}
theorem Wtn.dec (h : Wtn C q0 L) {i k : Nat} (hi : i < 3) (hk : k < 3 * L.length) : decN (C i (5 + k)) 0 4 = q0 + ((k / 3 : Nat) : Int) := by
  have hg : k / 3 < L.length := by omega
  obtain ⟨_, a2, a3, _⟩ := h.whl (k / 3) _ (List.getElem?_eq_getElem hg)
  have := (a3 (k % 3) (by omega)).seq hi
  rw [show 3 * (k / 3) + k % 3 = k by omega] at this
  rw [this, a2]
theorem cnt_ok (h : cntB bad ≤ 1) : ∃ i, i < 3 ∧ bad i = false := by
  cases h0 : bad 0 with
  | false => exact ⟨0, by omega, h0⟩
  | true =>
    cases h1 : bad 1 with
    | false => exact ⟨1, by omega, h1⟩
    | true => unfold cntB at h; rw [h0, h1] at h; simp at h; omega
/-- What Look finds. -/
theorem Wtn.look (h : Wtn C q0 L) (hv : Vd R 4 41 bad noD C) (hc : cntB bad ≤ 1) (h0 : 1 ≤ q0) : lkL B0 R 12 = L ∧ grM B0 R 36 = (if L.length = 0 then 0 else q0 + (L.length : Int) - 1) := by
  have hw : Vw B0 R bad bad C := hv.vw0
  have hl := h.few
  refine ⟨?_, ?_⟩
  · rw [lkL_all (N := L.length) h.few (f := fun g => L.getD g default) (fun g hg => ?_) (fun g h1 h2 => ?_)]
    · apply List.ext_getElem?
      intro i
      rw [List.getElem?_map]
      rcases Nat.lt_or_ge i L.length with h1 | h1
      · rw [List.getElem?_range h1, List.getElem?_eq_getElem h1]
        simp [List.getD, h1]
      · rw [List.getElem?_eq_none (by simpa using h1), List.getElem?_eq_none h1]
        rfl
    · obtain ⟨a1, a2, a3, a4⟩ := h.whl g _ (List.getElem?_eq_getElem hg)
      obtain ⟨fb, nb, b1, b2, b3, b4, b5⟩ := h.blk g _ (List.getElem?_eq_getElem hg)
      have hk := hw.lkYes (g := g) (by omega) a3 (by omega) hc a4 b1 b2 b3 b4 b5
      rw [hk]
      have e : L.getD g default = L[g] := by simp [List.getD, hg]
      rw [e]
      generalize L[g] = x at *
      obtain ⟨g', q, c, i, n, t⟩ := x
      simp only at a1
      rw [a1]
    · exact hw.lkNot h2 (fun s hs => h.off s _ hs (by omega) (by omega)) hc
  · have step : ∀ k, k ≤ 36 → grM B0 R k = if k = 0 ∨ L.length = 0 then 0 else q0 + ((min ((k - 1) / 3) (L.length - 1) : Nat) : Int) := by
      intro k
      induction k with
      | zero => intro _; rfl
      | succ k ih =>
        intro hk
        have ih := ih (by omega)
        have e : (5 : Int) + (k : Int) = ((5 + k : Nat) : Int) := by omega
        show mxL (grM B0 R k) (alL B0 (5 + (k : Int)) R B0.num) = _
        rw [e]
        by_cases h1 : k < 3 * L.length
        · rw [if_neg (by omega), show min ((k + 1 - 1) / 3) (L.length - 1) = k / 3 by omega]
          refine mxL_up _ _ ?_ (fun x hx => ?_) (.inr ?_)
          · rw [ih]
            split
            · omega
            · omega
          · obtain ⟨i, hi, _, rfl⟩ := (hv.al (by omega) x).1 hx
            by_cases h3 : i < 3
            · rw [h.dec h3 h1]; exact Int.le_refl _
            · obtain rfl : i = 3 := by omega
              rw [h.sp _ (by omega)]
              omega
          · obtain ⟨i, hi, hb⟩ := cnt_ok hc
            exact ⟨C i (5 + k), (hv.al (by omega) _).2 ⟨i, by omega, hb, rfl⟩, h.dec hi h1⟩
        · refine (mxL_up (v := grM B0 R k) _ _ (Int.le_refl _) (fun x hx => ?_) (.inl rfl)).trans ?_
          · obtain ⟨i, hi, _, rfl⟩ := (hv.al (by omega) x).1 hx
            have hz : decN (C i (5 + k)) 0 4 = 0 := by
              by_cases h3 : i < 3
              · exact h.off i _ h3 (by omega) (by omega)
              · obtain rfl : i = 3 := by omega
                exact h.sp _ (by omega)
            rw [hz, ih]
            split <;> omega
          · rw [ih]
            by_cases h4 : L.length = 0
            · rw [if_pos (.inr h4), if_pos (.inr h4)]
            · rw [if_neg (by omega), if_neg (by omega)]
              omega
    rw [step 36 (Nat.le_refl _)]
    by_cases h4 : L.length = 0
    · rw [if_pos (.inr h4), if_pos h4]
    · rw [if_neg (by omega), if_neg h4]
      omega
end
end Go.Proofs.YtegmeoghonolcaaGreat

/-
  Groups that ScanFinds writes, each in segments of its own, one behind the other.
-/
namespace Go.Proofs.YtegmeoghonolcaaGreat
set_option linter.unusedVariables false

/-- The k-th info of a group of n, that begins at segment g and Seq q. -/
def infF (n g : Nat) (q r : Int) (k : Nat) : Inf := ⟨(g : Int) + k, q + k, n, k, 0, if k + 1 = n then r else 0⟩
def blkF (n g : Nat) (q r : Int) (m : Nat) : List Inf := (List.range m).map (infF n g q r)
theorem blkF_succ (n g : Nat) (q r : Int) (m : Nat) : blkF n g q r (m + 1) = blkF n g q r m ++ [infF n g q r m] := by simp [blkF, List.range_succ]
theorem blkF_len (n g : Nat) (q r : Int) (m : Nat) : (blkF n g q r m).length = m := by simp [blkF]
theorem blkF_get {n g : Nat} {q r : Int} {m k : Nat} {x : Inf} (h : (blkF n g q r m)[k]? = some x) : k < m ∧ x = infF n g q r k := by
  have hk : k < m := by
    rcases Nat.lt_or_ge k m with h1 | h1
    · exact h1
    · rw [List.getElem?_eq_none (by rw [blkF_len]; exact h1)] at h; cases h
  refine ⟨hk, ?_⟩
  unfold blkF at h
  rw [List.getElem?_map, List.getElem?_range hk] at h
  simpa using h.symm
theorem blkF_mem {n g : Nat} {q r : Int} {m : Nat} {x : Inf} (h : x ∈ blkF n g q r m) : ∃ k, k < m ∧ x = infF n g q r k := by
  obtain ⟨k, hk⟩ := List.getElem?_of_mem h
  exact ⟨k, blkF_get hk⟩
def kbF (n g : Nat) (q r : Int) : Kb := ⟨q, n, blkF n g q r n⟩
def segF (n g : Nat) : List Int := (List.range n).map fun k : Nat => (g : Int) + k
theorem segF_succ (n g : Nat) : segF (n + 1) g = segF n g ++ [(g : Int) + n] := by simp [segF, List.range_succ]
theorem segF_len (n g : Nat) : (segF n g).length = n := by simp [segF]
theorem flatF_append (A B : List Kb) : flatB (A ++ B) = flatB A ++ flatB B := by simp [flatB]
theorem flatF_one (k : Kb) : flatB [k] = k.B := by simp [flatB]
theorem kbF_whole {n g : Nat} {q r : Int} (hn : 0 < n) (hq : 0 ≤ q) : (kbF n g q r).Fine ∧ wholeK (kbF n g q r) = some ⟨q, r, segF n g⟩ := by
  have hne : blkF n g q r n ≠ [] := fun e => by
    have := congrArg List.length e
    simp [blkF_len] at this
    omega
  have hlen : ((kbF n g q r).B.length : Int) = (kbF n g q r).c := by simp [kbF, blkF_len]
  have hord : OrdI (kbF n g q r).B := fun k x hx => by
    obtain ⟨_, rfl⟩ := blkF_get hx
    rfl
  refine ⟨⟨fun x hx => ?_, .inl ⟨hne, hlen, hord⟩⟩, ?_⟩
  · obtain ⟨k, hk, rfl⟩ := blkF_mem hx
    unfold Inf.of Inf.ok infF kbF
    rw [decide_eq_true, decide_eq_true]
    · rfl
    · exact ⟨by show q + (k : Int) - (k : Int) = q; omega, rfl⟩
    · exact ⟨by show (0 : Int) ≤ (k : Int); omega, by show (k : Int) < (n : Int); omega, by show (k : Int) ≤ q + (k : Int); omega⟩
  · unfold wholeK
    rw [if_pos ⟨hne, hlen⟩]
    obtain ⟨m, rfl⟩ : ∃ m, n = m + 1 := ⟨n - 1, by omega⟩
    have hl : ((kbF (m + 1) g q r).B.getLastD default).r = r := by
      show ((blkF (m + 1) g q r (m + 1)).getLastD default).r = r
      rw [blkF_succ, List.getLastD_concat]
      show (if m + 1 = m + 1 then r else 0) = r
      rw [if_pos rfl]
    have hs : (kbF (m + 1) g q r).B.map Inf.g = segF (m + 1) g := by
      show (blkF (m + 1) g q r (m + 1)).map Inf.g = _
      unfold blkF segF
      rw [List.map_map]
      rfl
    unfold mkG
    rw [hl, hs]
    rfl
/-- What the law has behind i groups. -/
structure RowF (Ks : List Kb) (Gs : List Gr) (i : Nat) (q0 : Int) : Prop where
  fine : ∀ k ∈ Ks, k.Fine
  asc : Ks.Pairwise fun a b => a.f < b.f
  low : ∀ k ∈ Ks, k.f < q0 + ((flatB Ks).length : Int)
  most : (flatB Ks).length ≤ 2 * i
  grs : Ks.filterMap wholeK = Gs
  num : Gs.length = i
  few : ∀ x ∈ Gs, x.s.length ≤ 2
  small : ∀ x ∈ flatB Ks, x.q ≤ q0 + 1000 ∧ x.c ≤ 2
theorem RowF.zero (q0 : Int) : RowF [] [] 0 q0 := ⟨(fun k h => by cases h), List.Pairwise.nil, (fun k h => by cases h), Nat.zero_le _, rfl, rfl, (fun k h => by cases h), (fun k h => by cases h)⟩
theorem RowF.next {Ks : List Kb} {Gs : List Gr} {i n : Nat} {q0 r : Int} (h : RowF Ks Gs i q0) (h0 : 0 ≤ q0) (hi : i < 100) (hn : 0 < n) (hn2 : n ≤ 2) :
    RowF (Ks ++ [kbF n (flatB Ks).length (q0 + ((flatB Ks).length : Int)) r]) (Gs ++ [⟨q0 + ((flatB Ks).length : Int), r, segF n (flatB Ks).length⟩]) (i + 1) q0 := by
  have hm := h.most
  obtain ⟨hw1, hw2⟩ := kbF_whole (n := n) (g := (flatB Ks).length) (q := q0 + ((flatB Ks).length : Int)) (r := r) hn (by omega)
  have hfl : (flatB (Ks ++ [kbF n (flatB Ks).length (q0 + ((flatB Ks).length : Int)) r])).length = (flatB Ks).length + n := by
    rw [flatF_append, flatF_one, List.length_append]
    simp [kbF, blkF_len]
  refine ⟨fun k hk => ?_, ?_, fun k hk => ?_, by omega, ?_, by simp [h.num], fun x hx => ?_, fun x hx => ?_⟩
  · rcases List.mem_append.1 hk with h1 | h1
    · exact h.fine k h1
    · rw [List.mem_singleton.1 h1]; exact hw1
  · rw [List.pairwise_append]
    refine ⟨h.asc, List.pairwise_singleton _ _, fun a ha b hb => ?_⟩
    rw [List.mem_singleton.1 hb]
    exact h.low a ha
  · rw [hfl]
    rcases List.mem_append.1 hk with h1 | h1
    · have := h.low k h1; omega
    · rw [List.mem_singleton.1 h1]
      show q0 + ((flatB Ks).length : Int) < _
      omega
  · rw [List.filterMap_append, h.grs]
    simp [hw2]
  · rcases List.mem_append.1 hx with h1 | h1
    · exact h.few x h1
    · rw [List.mem_singleton.1 h1]
      show (segF n _).length ≤ 2
      rw [segF_len]; exact hn2
  · rw [flatF_append, flatF_one] at hx
    rcases List.mem_append.1 hx with h1 | h1
    · exact h.small x h1
    · obtain ⟨k, hk, rfl⟩ := blkF_mem h1
      constructor
      · show q0 + ((flatB Ks).length : Int) + (k : Int) ≤ q0 + 1000; omega
      · show (n : Int) ≤ 2; omega
theorem RowF.groups {Ks : List Kb} {Gs : List Gr} {i : Nat} {q0 : Int} (h : RowF Ks Gs i q0) : GroupsOf (flatB Ks) Gs := by
  rw [← h.grs]
  exact groups_flat h.fine h.asc
end Go.Proofs.YtegmeoghonolcaaGreat
