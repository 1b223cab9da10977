/-
  The program's Move by contract.
-/
import Derived.Test.YtgedgkdnjnbijaaKr
import Derived.Test.YtgedgkdnjnbijaaKa
namespace Go.Proofs.Ytgedgkdnjnbijaa
open Go.RowKit Go.Maps Go.ChangeMaps Go.MapKept
set_option linter.unusedVariables false
set_option linter.unusedSimpArgs false

/-- Moved as far as the range has come: those at f that are no longer to come. -/
def mvL (A : Nat → Int) (f t : Int) (L : Nat → Bool) : Nat → Int := fun s => if A s = f ∧ L s = false then t else A s
def mvC (A : Nat → Int) (f : Int) (L : Nat → Bool) : Nat → Bool := fun s => decide (A s = f) && !L s
def outL (L : Nat → Bool) (s : Nat) : Nat → Bool := fun i => L i && !decide (i = s)
theorem outL_key (left : Lit → Bool) (s : Nat) : (fun i : Nat => (fun z => left z && !z.sameKey (keyI s)) (keyI i)) = outL (fun i => left (keyI i)) s := by
  funext i
  show (left (keyI i) && !(keyI i).sameKey (keyI s)) = (left (keyI i) && !decide (i = s))
  congr 2
  by_cases e : i = s
  · subst e
    rw [decide_eq_true rfl]
    simp [Lit.sameKey, keyI]
  · rw [decide_eq_false e]
    exact Maps.sameKey_ne fun h => e (keyI_inj h)
theorem mvL_hit {A : Nat → Int} {f t : Int} {L : Nat → Bool} {s : Nat} (h : A s = f) : upd (mvL A f t L) s t = mvL A f t (outL L s) := by
  funext i
  unfold upd mvL outL
  by_cases e : i = s
  · subst e; simp [h]
  · simp [e]
theorem mvL_miss {A : Nat → Int} {f t : Int} {L : Nat → Bool} {s : Nat} (h : A s ≠ f) : mvL A f t L = mvL A f t (outL L s) := by
  funext i
  unfold mvL outL
  by_cases e : i = s
  · subst e; simp [h]
  · simp [e]
theorem mvC_hit {A : Nat → Int} {f : Int} {L : Nat → Bool} {s N : Nat} (hs : s < N) (h : A s = f) (hl : L s = true) : cq (mvC A f (outL L s)) N = cq (mvC A f L) N + 1 := by
  refine cq_one hs (fun i hi => ?_) ?_ ?_
  · simp [mvC, outL, hi]
  · simp [mvC, hl]
  · simp [mvC, outL, h]
theorem mvC_miss {A : Nat → Int} {f : Int} {L : Nat → Bool} {s : Nat} (h : A s ≠ f) : mvC A f (outL L s) = mvC A f L := by
  funext i
  unfold mvC outL
  by_cases e : i = s
  · subst e; simp [h]
  · simp [e]
theorem Fits.mvL {A : Nat → Int} {X : Nat → List Int} (h : Fits A X) {f t : Int} (hf : 1 ≤ f) (ht : 1 ≤ t ∧ t ≤ 65535) (L : Nat → Bool) : Fits (mvL A f t L) X :=
  ⟨fun k => by unfold Go.Proofs.Ytgedgkdnjnbijaa.mvL; split; omega; exact h.rg k, h.sz, fun k => by
    unfold Go.Proofs.Ytgedgkdnjnbijaa.mvL
    split
    · rename_i h1
      rcases h.dj k with h2 | h2
      · exact .inl h2
      · exfalso; have := h1.1; omega
    · exact h.dj k⟩
/-- What Move leaves. -/
def MoveP (w : World) (p b c : Nat) (A : Nat → Int) (X : Nat → List Int) (f t : Int) (e : Ending) (w' : World) : Prop :=
  e = .returned (.int .i64 (if moO f t then mvN A f 828 else 0)) ∧ Turn (fun j => j = b ∨ j = c) w w' ∧ PmpAt w' p b c (if moO f t then mvA A f t 828 else A) X
theorem moveP_no {w : World} {p b c : Nat} {A : Nat → Int} {X : Nat → List Int} {f t : Int} (h : PmpAt w p b c A X) (hm : moO f t = false ∨ 65535 < f) : MoveP w p b c A X f t (.returned (.int .i64 0)) w := by
  unfold MoveP
  cases ho : moO f t with
  | false => exact ⟨rfl, Turn.refl _ _, h⟩
  | true =>
    rw [ho] at hm
    have hf : 65535 < f := by simpa using hm
    have h0 : ∀ k, mvN A f k = 0 := fun k => by
      induction k with
      | zero => rfl
      | succ k ih =>
        rw [mvN, ih, if_neg (fun e => by have := (h.ok.rg k).2; omega)]
        rfl
    have h1 : mvA A f t 828 = A := by
      funext i
      exact if_neg (fun e => by have := (h.ok.rg i).2; omega)
    rw [h1, h0]
    exact ⟨rfl, Turn.refl _ _, h⟩
set_option maxRecDepth 10000 in
set_option maxHeartbeats 4000000 in
theorem move_any {w : World} {p b c : Nat} {A : Nat → Int} {X : Nat → List Int} (h : PmpAt w p b c A X) (f t : Int) :
    Calls Try.prog 24 #[.pointer (some ⟨p, 0, none⟩), .int .i64 f, .int .i64 t] w (MoveP w p b c A X f t) := by
  have hc1 := isAddr_any f w
  have hc2 := isAddr_any t w
  by_cases hf : 1 ≤ f ∧ f ≤ 65535
  · rw [decide_eq_true hf] at hc1
    by_cases ht : 1 ≤ t ∧ t ≤ 65535
    · rw [decide_eq_true ht] at hc2
      have HP := Lib.hid h
      have HF := Lib.hid hf
      have HT := Lib.hid ht
      have c0 := h.c0
      obtain ⟨D, hD⟩ := h.ma
      have HD := Lib.hid hD
      have hown := hD.own
      clear h hf ht hD
      go_enter Try.func24, Try.ntmps24
      go_wp2_with (fail)
      refine hc1.mono ?_
      rintro e w2 ⟨rfl, rfl⟩
      go_wp2_with (fail)
      refine hc2.mono ?_
      rintro e w3 ⟨rfl, rfl⟩
      clear hc1 hc2
      go_wp2_with (first
        | (at_range; refine wpList_range_own _ rfl _ 57 rfl 3 3 law3 uA elA b 828 _ rfl hown ?_; intro w0 hrg0 hg0 hs0)
        | go_in)
      go_frame
      have hL0 : ∀ s : Nat, s < 828 → A s = f → Maps.has D (keyI s) = true := fun s hs e => by
        rw [HD.out.has, fA_yes (by have := HF.out; omega)]
        rfl
      go_loopw [7] (fun u wr => ∃ (left : Lit → Bool) (cnt : Nat) (Dn : DataW Unit), u = .int .i64 (cq (mvC A f (fun i => left (keyI i))) 828) ∧ wr.ranges Try.prog 3 elA b w3.heap.size 828 Dn left cnt ∧ NmD wr elA b 828 (fA (mvL A f t (fun i => left (keyI i)))) Dn ∧ w3.grownBy wr (some b))
        (fun _ wr => wr.rangeLeft b w3.heap.size)
      case atStart =>
        refine ⟨_, _, D, ?_, hrg0, ?_, hg0.but _⟩
        · rw [cq_none fun i hi => ?_]
          unfold mvC
          cases hd : decide (A i = f) with
          | false => rfl
          | true =>
            show (true && !Maps.has D (keyI i)) = false
            rw [hL0 i hi (of_decide_eq_true hd)]
            rfl
        · have : mvL A f t (fun i => Maps.has D (keyI i)) = A := by
            funext i
            unfold mvL
            refine if_neg fun h => ?_
            rcases Nat.lt_or_ge i 828 with h1 | h1
            · have h2 := hL0 i h1 h.1
              have h3 : Maps.has D (keyI i) = false := h.2
              rw [h2] at h3
              cases h3
            · have h2 := fA_zero (HP.out.ma.far h1)
              have := HF.out
              omega
          rw [this]
          exact ⟨hrg0.owns, HD.out.val, HD.out.has, HD.out.keys⟩
      case round =>
        obtain ⟨left, cnt, Dn, rfl, hrg, hN, hgw⟩ := hrel
        have HN := Lib.hid hN
        have HG := Lib.hid hgw
        have HRo := Lib.hid hrg
        clear hN hgw hL0 hown hrg0 hg0 hs0 c0
        go_wp2_with (first
          | (at_next; refine wpList_next_ranges _ rfl _ rfl 3 law3 elA id id (fun key _ _ => ⟨key, rfl⟩) (fun v _ _ => ⟨v, rfl⟩) b w3.heap.size 828 _ _ _ rfl hrg ?_ ?_)
          | go_in)
        · intro _ hl0
          go_wp2
          go_ret
          have hE : cq (mvC A f fun i => left (keyI i)) 828 = mvN A f 828 := cq_mv fun i hi => by
            show (decide (A i = f) && !left (keyI i)) = _
            rw [hl0, Bool.not_false, Bool.and_true]
          have hM : mvL A f t (fun i => left (keyI i)) = mvA A f t 828 := by
            funext i
            unfold mvL mvA
            by_cases h1 : A i = f
            · have h2 : i < 828 := by
                rcases Nat.lt_or_ge i 828 with h3 | h3
                · exact h3
                · have h4 := fA_zero (HP.out.ma.far h3)
                  have := HF.out
                  omega
              rw [if_pos ⟨h1, hl0 _⟩, if_pos ⟨h2, h1⟩]
            · rw [if_neg (fun h => h1 h.1), if_neg (fun h => h1 h.2)]
          have hok : moO f t = true := decide_eq_true ⟨HF.out.1, HT.out⟩
          have hA := HP.out.ok.mvL (t := t) HF.out.1 HT.out (fun i => left (keyI i))
          have hNm : Nm wr elA b (fA (mvL A f t fun i => left (keyI i))) := HN.out.tight
          rw [hM] at hA hNm
          unfold MoveP
          rw [hok, if_pos rfl, if_pos rfl, ← hE]
          exact ⟨rfl, (Turn.of_grown (M := (· = b)) HG.out rfl).mono fun j e => .inl e, HP.out.setA (Turn.of_grown HG.out rfl) hNm hA⟩
        · intro x v kl yd yp w1 cnt1 hkey hlx hv hat hrg1 hlt hg1 hs1 hen
          obtain ⟨xi, rfl, rfl, _⟩ := Maps.keyOf_i64 Try.underlying3 hkey
          obtain ⟨s, hs, he⟩ := HN.out.keys _ (has_true_of_atKey hat)
          obtain rfl : xi = (s : Int) := by simpa [keyI] using he
          have hls : (fun i : Nat => left (keyI i)) s = true := hlx
          have hLm : mvL A f t (fun i => left (keyI i)) s = A s := if_neg fun h => by rw [hls] at h; cases h.2
          have hin := has_true_of_atKey hat
          have hAs : A s ≠ 0 := fun e => by
            have h1 := HN.out.has s
            have h2 : fA (mvL A f t fun i => left (keyI i)) s = none := fA_no (by rw [hLm]; exact e)
            rw [h2] at h1
            rw [h1] at hin
            cases hin
          have hyd : yd = .lit (.int .i64 (A s)) := by
            have h1 := HN.out.val s _ (fA_yes (by rw [hLm]; exact hAs)) .nil
            rw [hat .nil, hLm] at h1
            exact h1
          rw [hyd] at hv
          obtain rfl := elA_inv hv
          have hgw1 := HG.out.andThen hg1 (fun j hj => by cases hj; exact Or.inl (Nat.le_refl _))
          have c1 : w1.cell? ⟨p, 0, none⟩ = some (.map (some b)) := hgw1.cell HP.out.c0 (by simp only [ne_eq, Option.some.injEq]; exact HP.out.nb)
          obtain ⟨m, hm⟩ : ∃ m, m = cq (mvC A f fun i => left (keyI i)) 828 := ⟨_, rfl⟩
          have hbd := cq_bd (mvC A f fun i => left (keyI i)) 828
          rw [← hm] at hbd ⊢
          obtain ⟨z, hz⟩ : ∃ z, z = A s := ⟨_, rfl⟩
          rw [← hz] at hen ⊢
          have w1e : IntKind.i64.wrap (m + 1) = m + 1 := IntWalk.i64_in _ (by omega)
          have HM := Lib.hid hm
          have HZ := Lib.hid hz
          have HLS := Lib.hid hls
          have HLT := Lib.hid hlt
          have hk2 := outL_key left s
          by_cases hzf : z = f
          · have d1 : (z == f) = true := by simp [hzf]
            obtain ⟨w2, hst, hrg2, htn⟩ := ranges_stay hrg1 law3 uA (by unfold maxLen; omega) hkey (elA_mk ⟨by have := HT.out; omega, HT.out.2⟩) hin
            have hN2 := HN.out.put hs hrg2.owns
            rw [fA_upd _ _ (by have := HT.out; omega), mvL_hit (by rw [← HZ.out, hzf])] at hN2
            have HN2 := Lib.hid hN2
            have HR2 := Lib.hid hrg2
            have HG2 := Lib.hid (hgw1.andThen htn.grown (fun j hj => by cases hj; exact Or.inr rfl))
            have HE := Lib.hid (mvC_hit (A := A) (f := f) (L := fun i => left (keyI i)) (s := s) (N := 828) hs (by rw [← HZ.out, hzf]) hls)
            have HK := Lib.hid hk2
            clear hN2 hrg2 htn hgw1 hrg1 hg1 hs1 hat hin hAs hyd hv hm hz hls hlt hlx hk2 hbd hrg hzf hLm
            go_wp2_with (fail)
            go_roundw
            case rel =>
              refine ⟨_, cnt1, _, ?_, HR2.out, ?_, HG2.out⟩
              · rw [HK.out, HE.out, ← HM.out]
              · rw [HK.out]; exact HN2.out
            case measure => rw [HR2.out.left_eq, HRo.out.left_eq]; exact HLT.out
          · have d1 : (z == f) = false := by simp [hzf]
            have hN2 : NmD w1 elA b 828 (fA (mvL A f t fun i => left (keyI i))) Dn := ⟨hrg1.owns, HN.out.val, HN.out.has, HN.out.keys⟩
            rw [mvL_miss (s := s) (by rw [← HZ.out]; exact hzf)] at hN2
            have HN2 := Lib.hid hN2
            have HR2 := Lib.hid hrg1
            have HG2 := Lib.hid hgw1
            have HE := Lib.hid (mvC_miss (A := A) (f := f) (L := fun i => left (keyI i)) (s := s) (by rw [← HZ.out]; exact hzf))
            have HK := Lib.hid hk2
            clear hN2 hgw1 hrg1 hg1 hs1 hat hin hAs hyd hv hm hz hls hlt hlx hk2 hbd hrg hzf hLm
            go_wp2_with (fail)
            go_roundw
            case rel =>
              refine ⟨_, cnt1, _, ?_, HR2.out, ?_, HG2.out⟩
              · rw [HK.out, HE.out, ← HM.out]
              · rw [HK.out]; exact HN2.out
            case measure => rw [HR2.out.left_eq, HRo.out.left_eq]; exact HLT.out
    · have HN := Lib.hid (moveP_no (f := f) (t := t) h (.inl (decide_eq_false (by omega))))
      rw [decide_eq_false ht] at hc2
      clear h hf ht
      go_enter Try.func24, Try.ntmps24
      go_wp2_with (fail)
      refine hc1.mono ?_
      rintro e w2 ⟨rfl, rfl⟩
      go_wp2_with (fail)
      refine hc2.mono ?_
      rintro e w3 ⟨rfl, rfl⟩
      go_wp2_with (fail)
      go_ret
      exact HN.out
  · have HN := Lib.hid (moveP_no (f := f) (t := t) h (by
      by_cases h1 : 1 ≤ f
      · exact .inr (by omega)
      · exact .inl (decide_eq_false (by omega))))
    rw [decide_eq_false hf] at hc1
    clear h hf hc2
    go_enter Try.func24, Try.ntmps24
    go_wp2_with (fail)
    refine hc1.mono ?_
    rintro e w2 ⟨rfl, rfl⟩
    go_wp2_with (fail)
    go_ret
    exact HN.out
end Go.Proofs.Ytgedgkdnjnbijaa
