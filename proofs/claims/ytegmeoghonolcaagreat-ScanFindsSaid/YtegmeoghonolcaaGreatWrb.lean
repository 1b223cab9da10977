/-
  The stripe's Write, by contract.
-/
import Derived.Test.YtegmeoghonolcaaGreatWra
import Derived.Test.YtegmeoghonolcaaGreatRwa
set_option linter.unusedSimpArgs false
set_option linter.unusedVariables false
namespace Go.Proofs.YtegmeoghonolcaaGreat
open Go.RowKit Go.Maps
set_option linter.unusedVariables false
attribute [local go_sem] Oper.semAt_some

/-- The sectors of row a. -/
def rowE (q : Int) (fb : Nat → BlP) (nb o a : Nat) : Nat → List Int := rowF (fun c => enS q fb nb (a * o + c)) o
/-- Rows written, till the power goes. -/
def wrG (B : Bn) (n : Nat) (g q : Int) (fb : Nat → BlP) (nb : Nat) (R : Rk) : Nat → Bool × Rk
  | 0 => (false, R)
  | a + 1 => if (wrG B n g q fb nb R a).1 then wrG B n g q fb nb R a else wrC B (rowD n (g * B.r + a)) (5 + (g * B.r + a)) (rowE q fb nb (n - 1) a) (wrG B n g q fb nb R a).2 n
theorem wrG_n (B : Bn) (n : Nat) (g q : Int) (fb : Nat → BlP) (nb : Nat) (R : Rk) (a : Nat) : (wrG B n g q fb nb R a).2.n = R.n := by
  induction a with
  | zero => rfl
  | succ a ih =>
    rw [wrG]
    split
    · exact ih
    · rw [wrC_n]; exact ih
theorem wrG_end {B : Bn} {n : Nat} {g q : Int} {fb : Nat → BlP} {nb : Nat} {R : Rk} {a m : Nat} (h : a ≤ m) (hc : (wrG B n g q fb nb R a).1 = true) : wrG B n g q fb nb R m = wrG B n g q fb nb R a := by
  induction m with
  | zero => obtain rfl : a = 0 := by omega
            rfl
  | succ m ih =>
    rcases Nat.lt_or_ge m a with h1 | h1
    · obtain rfl : a = m + 1 := by omega
      rfl
    · have := ih h1
      rw [wrG, this, if_pos hc]
theorem wrG_go {B : Bn} {n : Nat} {g q : Int} {fb : Nat → BlP} {nb : Nat} {R : Rk} {a : Nat} (hc : (wrG B n g q fb nb R a).1 = false) : wrG B n g q fb nb R (a + 1) = wrC B (rowD n (g * B.r + a)) (5 + (g * B.r + a)) (rowE q fb nb (n - 1) a) (wrG B n g q fb nb R a).2 n := by
  rw [wrG, if_neg (by rw [hc]; simp)]
/-- Is what Write is given in range? -/
noncomputable def rgO (B : Bn) (g q : Int) : Bool := segO B g && decide (1 ≤ q ∧ q ≤ 4294967295)
/-- What Write answers. -/
noncomputable def wrE (B : Bn) (R : Rk) (n m : Nat) (g q : Int) (fb : Nat → BlP) (nb : Nat) : Int :=
  if rgO B g q = false then 28 else if encB q fb nb (m * (n - 1)) = false then 41 else if twoB B R n then 14 else
    if (wrG B n g q fb nb R m).1 then 12 else if twoB B (wrG B n g q fb nb R m).2 n then 14 else 0
noncomputable def wrR (B : Bn) (R : Rk) (n m : Nat) (g q : Int) (fb : Nat → BlP) (nb : Nat) : Rk :=
  if rgO B g q = false then R else if encB q fb nb (m * (n - 1)) = false then R else if twoB B R n then R else (wrG B n g q fb nb R m).2
section
variable {w w' : World}
theorem Rb.turn {N : Nat → Prop} {g n : Nat} {f : Nat → Pc} (h : Rb w g n f) (ht : Turn N w w') (hg : ¬ N g) (hN : ∀ i, i < n → (f i).n = 0 ∨ ∀ x, (f i).a = some x → ¬ N x.block) : Rb w' g n f :=
  ⟨Nat.lt_of_lt_of_le h.lt ht.size, fun i hi => (ht.cell (a := ⟨g, i, none⟩) h.lt hg).trans (h.cell i hi), fun i => (ht.frozen (a := ⟨g, i, none⟩) h.lt hg).trans (h.free i), fun i hi => (h.each i hi).turn ht (hN i hi), h.apart⟩
theorem Rb.aside {l g n : Nat} {f : Nat → Pc} (h : Rb w g n f) (hn : 0 < n) (ha : Aside l w w') : Rb w' g n f := by
  obtain ⟨cs, t, fr, hb⟩ : ∃ cs t fr, w.heap[g]? = some (.cells cs t fr) := by
    have hc := h.cell 0 hn
    unfold World.cell? at hc
    simp only at hc
    cases ho : w.heap[g]? with
    | none => rw [ho] at hc; simp at hc
    | some o =>
      rw [ho] at hc
      cases o with
      | cells cs t fr => exact ⟨cs, t, fr, rfl⟩
      | _ => simp at hc
  have hl : g ≠ l := fun e => ha.no _ _ _ (e ▸ hb)
  refine ⟨Nat.lt_of_lt_of_le h.lt ha.turn.size, fun i hi => ha.cell (h.cell i hi), fun i => (ha.turn.frozen (a := ⟨g, i, none⟩) h.lt hl).trans (h.free i), fun i hi => ?_, h.apart⟩
  have hp := h.each i hi
  exact ⟨hp.bys.aside ha, hp.nil, hp.cap, hp.max⟩
/-- Part of a row. -/
theorem Rb.part {g n : Nat} {f : Nat → Pc} (h : Rb w g n f) {k m : Nat} (hk : k + m ≤ n) : Rws w (some ⟨g, k, none⟩) m (fun c => f (k + c)) :=
  ⟨.inr ⟨g, k, rfl, h.lt, fun i hi => h.cell (k + i) (by omega)⟩, fun i hi => h.each (k + i) (by omega)⟩
end
/-- Between two rows of Write. -/
structure WwI (w : World) (M : Nat → Prop) (L : Lay) (R Ra : Rk) (b : Nat) (B : Bn) (xg xs n : Nat) (g : Int) (C p0 p1 p9 gS P k : Nat) (F : Nat → Pc) (sa : Option Addr) (X : World) : Prop where
  rk : RackAt X (also M (fun k => k = p1 ∨ k = p9)) L Ra
  bn : BnAt X b L.p B
  bx : Bgs xg xs n B.r B.s g C X
  k0 : Cel p0 (.pointer (some ⟨b, 0, none⟩)) X
  k1 : Cel p1 (.int .i64 0) X
  k9 : Cel p9 (.slice sa (P - k) (P - k)) X
  rb : Rb X gS P F
  tn : Turn (L.M R.n) w X
section
variable {w : World} {M : Nat → Prop} {L : Lay} {R Ra Rb' : Rk} {b : Nat} {B : Bn} {xg xs n : Nat} {g : Int} {C p0 p1 p9 gS P k : Nat} {F : Nat → Pc} {sa : Option Addr} {X X' : World}
theorem WwI.next (h : WwI w M L R Ra b B xg xs n g C p0 p1 p9 gS P k F sa X) (hb : Below X.heap.size X X') : WwI w M L R Ra b B xg xs n g C p0 p1 p9 gS P k F sa X' :=
  ⟨h.rk.below hb, h.bn.next hb, h.bx.next hb, h.k0.next hb, h.k1.next hb, h.k9.next hb, h.rb.next hb, h.tn.trans (Turn.of_below hb)⟩
theorem WwI.abides {K : Nat} (hP : 0 < P) (hK : ∀ k, L.M Ra.n k → k < K) (hw : w.heap.size ≤ K) : Abides K (WwI w M L R Ra b B xg xs n g C p0 p1 p9 gS P k F sa) :=
  ⟨fun X X' h hb => h.next hb, fun l X X' hl h ha => ⟨h.rk.aside ha (fun x => by have := hK l x; omega), h.bn.aside ha, h.bx.aside ha, h.k0.aside ha, h.k1.aside ha, h.k9.aside ha, h.rb.aside hP ha, h.tn.aside ha (by omega)⟩⟩
/-- What is asked of the blocks. -/
structure WwA (w : World) (M : Nat → Prop) (L : Lay) (R : Rk) (b xg xs p0 p1 p9 gS P : Nat) (F : Nat → Pc) : Prop where
  low : ∀ k, L.M R.n k → k < w.heap.size
  bM : ¬ L.M R.n b
  b9 : b ≠ p9
  g9 : xg ≠ p9
  s9 : xs ≠ p9
  n09 : p0 ≠ p9
  n19 : p1 ≠ p9
  S9 : gS ≠ p9
  F9 : ∀ i, i < P → ∀ x, (F i).a = some x → x.block ≠ p9 ∧ w.heap.size ≤ x.block
  wg : w.heap.size ≤ xg
  ws : w.heap.size ≤ xs
  w0 : w.heap.size ≤ p0
  w1 : w.heap.size ≤ p1
  w9 : w.heap.size ≤ p9
  wS : w.heap.size ≤ gS
/-- The rack's blocks turn. -/
theorem WwI.turn (hA : WwA w M L R b xg xs p0 p1 p9 gS P F) (h : WwI w M L R Ra b B xg xs n g C p0 p1 p9 gS P k F sa X) (hRa : Ra.n = R.n) (hr : RackAt X' (also M (fun k => k = p1 ∨ k = p9)) L Rb') (ht : Turn (L.M Ra.n) X X') : WwI w M L R Rb' b B xg xs n g C p0 p1 p9 gS P k F sa X' := by
  rw [hRa] at ht
  have nb : ∀ y, w.heap.size ≤ y → ¬ L.M R.n y := fun y hy hm => by have := hA.low y hm; omega
  exact ⟨hr, h.bn.turn ht hA.bM, h.bx.turn ht (nb _ hA.wg) (nb _ hA.ws), h.k0.turn ht (nb _ hA.w0), h.k1.turn ht (nb _ hA.w1), h.k9.turn ht (nb _ hA.w9), h.rb.turn ht (nb _ hA.wS) (fun i hi => .inr fun x hx => nb _ (hA.F9 i hi x hx).2), h.tn.trans ht⟩
/-- The slice's box is written. -/
theorem WwI.put (hA : WwA w M L R b xg xs p0 p1 p9 gS P F) (h : WwI w M L R Ra b B xg xs n g C p0 p1 p9 gS P k F sa X) (hRa : Ra.n = R.n) (k' : Nat) (sa' : Option Addr) : WwI w M L R Ra b B xg xs n g C p0 p1 p9 gS P k' F sa' (X.setCell ⟨p9, 0, none⟩ (.slice sa' (P - k') (P - k'))) :=
  ⟨h.rk.store (.inr (.inr rfl)) (by rw [hRa]; intro x; have := hA.low _ x; have := hA.w9; omega) _, h.bn.turn (turn_set _ _ _ _) hA.b9, h.bx.turn (turn_set _ _ _ _) hA.g9 hA.s9, h.k0.off _ hA.n09.symm, h.k1.off _ hA.n19.symm, h.k9.set _, h.rb.turn (turn_set _ _ _ _) hA.S9 (fun i hi => .inr fun x hx => (hA.F9 i hi x hx).1), h.tn.off hA.w9 _⟩
end

end Go.Proofs.YtegmeoghonolcaaGreat

/-
  The stripe's Write, by contract: walked.
-/
namespace Go.Proofs.YtegmeoghonolcaaGreat
open Go.RowKit Go.Maps
set_option linter.unusedVariables false
attribute [local go_sem] Oper.semAt_some

theorem turn_abides2 {N : Nat → Prop} {w : World} {K : Nat} (hK : w.heap.size ≤ K) : Abides K (fun X => Turn N w X) :=
  ⟨fun X X' h hb => h.trans (Turn.of_below hb), fun l X X' hl h ha => h.aside ha (by omega)⟩
theorem abides_with {K : Nat} {p : Prop} {q : World → Prop} (h : p → Abides K q) : Abides K (fun X => p ∧ q X) :=
  ⟨fun X X' hx hb => ⟨hx.1, (h hx.1).below X X' hx.2 hb⟩, fun l X X' hl hx ha => ⟨hx.1, (h hx.1).aside l X X' hl hx.2 ha⟩⟩
theorem encS_len {s o i : Int} {x : List Int} (h : encO s o i x = true) : (encL s o i x).length = 64 := by
  have h' := h
  rw [encO, Bool.and_eq_true, decide_eq_true_eq] at h'
  rw [encL, h, if_pos rfl, List.length_append, padL_len h'.1, (headL_len s o i).2.2 h'.2]
section
variable {M : Nat → Prop} {L : Lay} {R : Rk} {w : World} {b : Nat} {B : Bn}
set_option maxRecDepth 100000 in
set_option maxHeartbeats 8000000 in
theorem sWrite_any {n m : Nat} (g q : Int) (ab : Option Addr) (nb c : Nat) (fb : Nat → BlP) (hr : RackAt w M L R) (hb : BnAt w b L.p B) (hbM : ¬ L.M R.n b) (hd : B.d = (n : Int)) (hn : n ≤ 16) (hm : B.r = (m : Int)) (hbl : Bls w ab nb fb) (hnb : nb ≤ 9223372036854775807) :
    Calls Tryz.prog 22 #[.pointer (some ⟨b, 0, none⟩), .int .i64 g, .int .i64 q, .slice ab nb c] w (CallPost M L R (wrR B R n m g q fb nb) w (.int .i64 (wrE B R n m g q fb nb))) := by
  have HR := Lib.hid hr
  have HB := Lib.hid hb
  have HBM := Lib.hid hbM
  have HBL := Lib.hid hbl
  unfold CallPost
  obtain ⟨vv, hvv⟩ : ∃ v, v = wrE B R n m g q fb nb := ⟨_, rfl⟩
  obtain ⟨R', hR'⟩ : ∃ v, v = wrR B R n m g q fb nb := ⟨_, rfl⟩
  rw [← hvv, ← hR']
  unfold wrE at hvv
  unfold wrR at hR'
  have HV := Lib.hid hvv
  have HR' := Lib.hid hR'
  clear hvv hR'
  refine (callsIn_wide (n := 3)).1 ?_
  refine callsIn_of_wp_marks Tryz.func22 rfl trivial ?_ rfl
  simp only [Tryz.ntmps22, List.size_toArray, List.length_cons, List.length_nil, Nat.reduceAdd, Nat.reduceSub, Array.replicate_succ, Array.replicate_zero, List.push_toArray, List.append_toArray, List.nil_append, List.cons_append]
  refine wpIn_wide.2 (wp_calm ?_)
  obtain ⟨W1, hW1⟩ : ∃ W1, W1 = w.alloc (.cells #[.pointer (some ⟨b, 0, none⟩)] 44) := ⟨_, rfl⟩
  obtain ⟨W2, hW2⟩ : ∃ W2, W2 = W1.alloc (.cells #[.int .i64 0] 28) := ⟨_, rfl⟩
  obtain ⟨p0, hp0⟩ : ∃ p, p = w.heap.size := ⟨_, rfl⟩
  obtain ⟨p1, hp1⟩ : ∃ p, p = p0 + 1 := ⟨_, rfl⟩
  have e1 : W1.heap.size = p1 := by rw [hW1, hp1, hp0]; simp
  have b2 : Below W1.heap.size W1 W2 := by rw [hW2]; exact (Below.refl _ _).alloc (Nat.le_refl _) _
  have b1 : Below w.heap.size w W2 := by
    have : Below w.heap.size w W1 := by rw [hW1]; exact (Below.refl _ _).alloc (Nat.le_refl _) _
    exact this.trans (b2.mono this.size)
  have k0 : Cel p0 (.pointer (some ⟨b, 0, none⟩)) W2 := by rw [hp0]; exact (Cel.new hW1).next b2
  have k1 : Cel p1 (.int .i64 0) W2 := by rw [← e1]; exact Cel.new hW2
  have hsg := shasSeg_any g (hb.next b1)
  have HP : Hid (p0 = w.heap.size ∧ p1 = p0 + 1) := ⟨hp0, hp1⟩
  have HB2 := Lib.hid b1
  have K0 := Lib.hid k0
  have K1 := Lib.hid k1
  have HE : Hid (∀ (e : Int) W', Below w.heap.size w W' → Cel p1 (.int .i64 0) W' → Cel p1 (.int .i64 0) W' ∧ Hid (Cel p1 (.int .i64 e) (W'.setCell ⟨p1, 0, none⟩ (.int .i64 e)) ∧ Below w.heap.size w (W'.setCell ⟨p1, 0, none⟩ (.int .i64 e)))) := fun e W' hb' hk' =>
    ⟨hk', hk'.set _, hb'.setCell (p := ⟨p1, 0, none⟩) (by show _ ≤ p1; omega) _⟩
  clear k0 k1 b2 hr hb hbM hbl
  go_wp2_with (fail)
  rw [← hW1, ← hW2, ← hp0, ← hp1]
  clear hW1 hW2 hp0 hp1 e1 b1
  refine hsg.mono ?_
  rintro e W3 ⟨rfl, b3⟩
  have HB3 := Lib.hid (HB2.out.trans (b3.mono HB2.out.size))
  have K0' := Lib.hid (K0.out.next b3)
  have K1' := Lib.hid (K1.out.next b3)
  clear hsg b3 K0 K1 HB2
  cases hs : segO B g with
  | false =>
    have hrg : rgO B g q = false := by rw [rgO, hs, Bool.false_and]
    clear hs
    have hV : Hid (vv = 28) := by show _ = _; rw [HV.out, if_pos hrg]
    have hR : Hid (R' = R) := by show _ = _; rw [HR'.out, if_pos hrg]
    obtain ⟨⟨c1, f1⟩, HF⟩ := HE.out 28 W3 HB3.out K1'.out
    clear hrg HE
    go_wp2_with (fail)
    have r1 := HF.out.1.1
    refine ⟨.int .i64 28, ?_, by rw [hV.out], by rw [hR.out]; exact HR.out.below HF.out.2, Turn.of_below HF.out.2⟩
    simp [results, Tryz.f22, go_sem, r1]
  | true =>
    by_cases h1 : 1 ≤ q
    · by_cases h2 : q ≤ 4294967295
      · have hrg : rgO B g q = true := by rw [rgO, hs, Bool.true_and]; exact decide_eq_true ⟨h1, h2⟩
        have hSg := segO_yes hs
        have g1 : decide (q < 1) = false := decide_eq_false (by omega)
        have g2 : decide (4294967295 < q) = false := decide_eq_false (by omega)
        rw [if_neg (by rw [hrg]; simp)] at HV HR'
        have d1 := hSg.d1
        have d2 := hSg.d2
        have r1 := hSg.r1
        have r2 := hSg.r2
        rw [hd] at d1 d2
        rw [hm] at r1 r2
        obtain ⟨P, hP⟩ : ∃ P, P = m * (n - 1) := ⟨_, rfl⟩
        have hPL : PL B.d B.r + 1 = (P : Int) := by
          unfold PL
          rw [hd, hm, hP, Int.natCast_mul]
          have : ((n - 1 : Nat) : Int) = (n : Int) - 1 := by omega
          rw [this]; omega
        have hP0 : 0 < P := by rw [hP]; exact Nat.mul_pos (by omega) (by omega)
        rw [← hP] at HV HR'
        have c0 := K0'.out.1
        have hge := geo_any (HB.out.next HB3.out)
        clear hs hrg
        go_wp2_with (fail)
        refine hge.mono ?_
        rintro e W4 ⟨rfl, b4⟩
        have HB4 := Lib.hid (HB3.out.trans (b4.mono HB3.out.size))
        have K0 := Lib.hid (K0'.out.next b4)
        have K1 := Lib.hid (K1'.out.next b4)
        have hen := encode_any B.d B.r B.s q P ab nb c fb W4 hSg.toRt hPL (HBL.out.below (Nat.le_refl _) HB4.out) hnb
        have HPP : Hid (P = m * (n - 1)) := hP
        have HD := Lib.hid hd
        have HM := Lib.hid hm
        have HSg := Lib.hid hSg
        have HPL := Lib.hid hPL
        clear hge b4 K0' K1' HB3 c0 hP hSg hPL hd hm
        cases hec : encB q fb nb P with
        | false =>
          have hV : Hid (vv = 41) := by show _ = _; rw [HV.out, if_pos hec]
          have hR : Hid (R' = R) := by show _ = _; rw [HR'.out, if_pos hec]
          have hen' := hen.mono (fun e w' h => (show e = .returned (.tuple #[.slice none 0 0, .bool false]) ∧ Below W4.heap.size W4 w' by unfold EnPost at h; rw [hec, if_neg (by simp)] at h; exact h))
          clear hen hec
          go_wp2_with (fail)
          refine hen'.mono ?_
          rintro e W5 ⟨rfl, b5⟩
          have b6 : Below W4.heap.size W4 (W5.alloc (.cells #[.slice none 0 0] 24)) := b5.alloc b5.size _
          obtain ⟨⟨c1, f1⟩, HF⟩ := HE.out 41 _ (HB4.out.trans (b6.mono HB4.out.size)) (K1.out.next b6)
          clear hen' b5 b6 HE
          go_wp2_with (fail)
          have r1 := HF.out.1.1
          refine ⟨.int .i64 41, ?_, by rw [hV.out], by rw [hR.out]; exact HR.out.below HF.out.2, Turn.of_below HF.out.2⟩
          simp [results, Tryz.f22, go_sem, r1]
        | true =>
          rw [if_neg (by rw [hec]; simp)] at HV HR'
          have hen' := hen.mono (fun e w' h => (show ∃ gS F, e = .returned (.tuple #[.slice (some ⟨gS, 0, none⟩) P P, .bool true]) ∧ Rb w' gS P F ∧ W4.heap.size ≤ gS ∧ (∀ j, j < P → (F j).zs = enS q fb nb j ∧ ∀ x, (F j).a = some x → W4.heap.size ≤ x.block) ∧ Below W4.heap.size W4 w' by unfold EnPost at h; rw [hec, if_pos rfl] at h; exact h))
          have hec' : enO q fb nb P = true := by unfold encB at hec; rw [Bool.and_eq_true] at hec; exact hec.2
          have HEC := Lib.hid hec'
          clear hen hec hec'
          go_wp2_with (fail)
          refine hen'.mono ?_
          rintro e W5 ⟨gS, F, rfl, hrb, hgS, hF, b5⟩
          obtain ⟨p9, hp9⟩ : ∃ p, p = W5.heap.size := ⟨_, rfl⟩
          obtain ⟨W6, hW6⟩ : ∃ W6, W6 = W5.alloc (.cells #[.slice (some ⟨gS, 0, none⟩) P P] 24) := ⟨_, rfl⟩
          have b6 : Below W5.heap.size W5 W6 := by rw [hW6]; exact (Below.refl _ _).alloc (Nat.le_refl _) _
          have k9 : Cel p9 (.slice (some ⟨gS, 0, none⟩) P P) W6 := by rw [hp9]; exact Cel.new hW6
          have b46 := b5.trans (b6.mono b5.size)
          have HB6 := Lib.hid (HB4.out.trans (b46.mono HB4.out.size))
          have K0' := Lib.hid (K0.out.next b46)
          have K1' := Lib.hid (K1.out.next b46)
          have K9 := Lib.hid k9
          have HRB := Lib.hid (hrb.next b6)
          have HFZ : Hid (∀ j, j < P → (F j).zs = enS q fb nb j) := fun j hj => (hF j hj).1
          have HF9 : Hid (∀ j, j < P → ∀ x, (F j).a = some x → x.block ≠ p9 ∧ x.block ≠ p1 ∧ w.heap.size ≤ x.block) := fun j hj x hx => by
            have h1 := (hF j hj).2 x hx
            have h2 := HB4.out.size
            have h3 := K1.out.lt
            have hp := hrb.each j hj
            have h64 : (F j).n = 64 := by rw [← hp.len, (hF j hj).1]; exact encS_len (enO_at hj HEC.out)
            rcases hp.bys.place with h0 | ⟨b', off', e', hlt', _⟩
            · omega
            · rw [e'] at hx
              cases hx
              simp only at h1 ⊢
              exact ⟨by omega, by omega, by omega⟩
          have HS9 : Hid (gS ≠ p9 ∧ w.heap.size ≤ gS ∧ w.heap.size ≤ p9 ∧ p1 < p9) := by
            have h1 := hrb.lt
            have h2 := HB4.out.size
            have h3 := b5.size
            have h4 := K1.out.lt
            exact ⟨by omega, by omega, by omega, by omega⟩
          have hby := beyond_any (HR.out.below HB6.out) (HB.out.next HB6.out) HD.out hn
          have c0 : (W5.alloc (.cells #[.slice (some ⟨gS, 0, none⟩) P P] 24)).cell? ⟨p0, 0, none⟩ = some (.pointer (some ⟨b, 0, none⟩)) := by rw [← hW6]; exact K0'.out.1
          rw [hW6] at hby
          clear hen' hrb hgS hF b5 b6 b46 k9 K0 K1 HB4
          cases hbe : twoB B R n with
          | true =>
            have hV : Hid (vv = 14) := by show _ = _; rw [HV.out, if_pos hbe]
            have hR : Hid (R' = R) := by show _ = _; rw [HR'.out, if_pos hbe]
            rw [hbe] at hby
            have HE2 : Hid (∀ W', Below W6.heap.size W6 W' → Cel p1 (.int .i64 0) W' ∧ Hid (Cel p1 (.int .i64 14) (W'.setCell ⟨p1, 0, none⟩ (.int .i64 14)) ∧ Below w.heap.size w (W'.setCell ⟨p1, 0, none⟩ (.int .i64 14)))) := fun W' b' => HE.out 14 W' (HB6.out.trans (b'.mono HB6.out.size)) (K1'.out.next b')
            rw [hW6] at HE2
            clear hbe hW6 HE
            go_wp2_with (go_at_call 53; refine hby.mono ?_; clear hby; rintro e W7 ⟨rfl, b7⟩; obtain ⟨⟨c1, f1⟩, HF⟩ := HE2.out W7 b7; clear b7 HE2)
            have r1 := HF.out.1.1
            refine ⟨.int .i64 14, ?_, by rw [hV.out], by rw [hR.out]; exact HR.out.below HF.out.2, Turn.of_below HF.out.2⟩
            simp [results, Tryz.f22, go_sem, r1]
          | false =>
            rw [if_neg (by rw [hbe]; simp)] at HV HR'
            rw [hbe] at hby
            clear hbe
            go_wp2_with (fail)
            rw [← hW6] at hby ⊢
            rw [← hp9]
            clear hW6 hp9 c0
            refine hby.mono ?_
            rintro e W7 ⟨rfl, b7⟩
            have HB7 := Lib.hid (HB6.out.trans (b7.mono HB6.out.size))
            have c0 := (K0'.out.next b7).1
            have hge := geo_any (HB.out.next HB7.out)
            rw [HD.out, HM.out] at hge
            clear hby
            go_wp2_with (fail)
            refine hge.mono ?_
            rintro e W8 ⟨rfl, b8⟩
            clear hge c0
            go_wp2_with (fail)
            refine (rows_any n m B.s g W8).mono ?_
            rintro e W9 ⟨xg, xs, rfl, hbx, hxg, hxs, b9⟩
            have b79 := b8.trans (b9.mono b8.size)
            have b69 := b7.trans (b79.mono b7.size)
            have HB9 := Lib.hid (HB6.out.trans (b69.mono HB6.out.size))
            have hMlow : Hid (∀ k, L.M R.n k → k < w.heap.size) := fun k hk => HR.out.low k (HR.out.sub k hk)
            have h68 : W6.heap.size ≤ W8.heap.size := Nat.le_trans b7.size b8.size
            have h9l := K9.out.lt
            have HA : Hid (WwA w M L R b xg xs p0 p1 p9 gS P F) := by
              have h1 := HS9.out
              have h2 := HP.out
              have h3 := HB6.out.size
              have h4 := HB.out.lt
              exact ⟨hMlow.out, HBM.out, by omega, by omega, by omega, by omega, by omega, h1.1, fun i hi x hx => ⟨(HF9.out i hi x hx).1, (HF9.out i hi x hx).2.2⟩, by omega, by omega, by omega, by omega, by omega, by omega⟩
            have HI0 : Hid (WwI w M L R R b B xg xs n g W8.heap.size p0 p1 p9 gS P 0 F (some ⟨gS, 0, none⟩) W9) :=
              ⟨HR.out.also HB9.out (fun k e => by
                have h1 := HS9.out
                have h2 := HP.out
                have h3 := b69.size
                rcases e with e | e
                · subst e; exact ⟨by omega, by omega⟩
                · subst e; exact ⟨by omega, by omega⟩), HB.out.next HB9.out, by rw [HM.out]; exact hbx, K0'.out.next b69, K1'.out.next b69, K9.out.next b69, HRB.out.next b69, Turn.of_below HB9.out⟩
            have hsz9 := HB9.out.size
            have h98 : p9 < W8.heap.size := by omega
            clear b7 b8 b9 b79 b69 hbx hxg hxs K0' K1' K9 HRB h9l
            go_wp2_with (fail)
            refine (wpIn_wide (n := 3)).1 ?_
            refine wp_over2 (N := fun k => L.M R.n k ∨ k = p1 ∨ k = p9) rfl (enters_of Tryz.func102 (by kernel_rfl) rfl) (rows_rounds xg xs n W8.heap.size m B.r B.s g (by rw [← HD.out]; exact HSg.out) HM.out) rfl
              (fun a X => ∃ sa, (wrG B n g q fb nb R a).1 = false ∧ (a * (n - 1) < P → sa = some ⟨gS, a * (n - 1), none⟩) ∧ WwI w M L R (wrG B n g q fb nb R a).2 b B xg xs n g W8.heap.size p0 p1 p9 gS P (a * (n - 1)) F sa X)
              (fun c X => c = .ret ∧ vv = 12 ∧ R' = (wrG B n g q fb nb R m).2 ∧ Cel p1 (.int .i64 12) X ∧ RackAt X (also M (fun k => k = p1 ∨ k = p9)) L R' ∧ Turn (L.M R.n) w X)
              (fun a a' X => ∃ v, RowAt X W8.heap.size v n (rowD n (g * B.r + a)) (5 + (g * B.r + a)) ∧ a' = { tmps := #[.pointer (some ⟨b, 0, none⟩), .int .i64 g, .int .i64 q, .slice ab nb c, .pointer (some ⟨p0, 0, none⟩), undef, undef, undef, .pointer (some ⟨p1, 0, none⟩), .pointer (some ⟨p9, 0, none⟩), .bool true, v, undef, .pointer (some ⟨b, 0, none⟩), .int .i64 g, .bool true, .bool false, .bool false, .int .i64 q, .bool false, .bool false, .bool false, .int .i64 q, .bool false, .bool false, .tuple #[.slice (some ⟨gS, 0, none⟩) P P, .bool true], .pointer (some ⟨b, 0, none⟩), gv B.d B.r B.s, .int .i64 q, .slice ab nb c, .tuple #[.slice (some ⟨gS, 0, none⟩) P P, .bool true], .slice (some ⟨gS, 0, none⟩) P P, .bool true, .bool true, .bool false, .pointer (some ⟨b, 0, none⟩), .bool false, .pointer (some ⟨b, 0, none⟩), gv n m B.s, .int .i64 g, .func (.func 102) #[] #[.pointer (some ⟨xg, 0, none⟩), .pointer (some ⟨xs, 0, none⟩)], v, undef, undef, undef, undef, undef, undef, undef, undef, undef, undef, undef, undef, undef, undef, undef], defers := [] })
              (fun a X h => by obtain ⟨_, _, _, h⟩ := h; exact h.bx) ?hI ?hIx ?hAx ?hN ?h0 ?assign (fun a X ha hs _ => by cases hs) ?body ?done ?stop
            case hI => exact fun a => Abides.ex fun sa => (Abides.pure _ _).and ((Abides.pure _ _).and (WwI.abides hP0 (fun k hk => by rw [wrG_n] at hk; have := hMlow.out k hk; omega) hsz9))
            case hIx => exact fun c => (Abides.pure _ _).and ((Abides.pure _ _).and (abides_with fun hR => (Cel.abides _ _ _).and ((RackAt.abides (fun k hk => by rw [hR, wrG_n] at hk; have := hMlow.out k hk; omega)).and (turn_abides2 hsz9))))
            case hAx => exact fun a a' => Abides.ex fun v => (RowAt.abides _).and (Abides.pure _ _)
            case hN =>
              have h1 := HI0.out.k1.lt
              have h2 := HI0.out.k9.lt
              rintro k (hk | rfl | rfl)
              · have := hMlow.out k hk; omega
              · exact h1
              · exact h2
            case h0 => exact ⟨_, rfl, fun _ => by rw [Nat.zero_mul], by rw [Nat.zero_mul]; exact HI0.out⟩
            case assign =>
              intro l2 a v X K ha hle hI hD hK
              gi_wp2
              exact hK _ _ (Below.refl _ _) ⟨v, hD, rfl⟩
            case body =>
              rintro l2 a a' X ha _ hle ⟨sa, hw0, hsa, hI⟩ ⟨v, hrow, rfl⟩
              obtain ⟨o, ho⟩ : ∃ o : Nat, o + 1 = n := ⟨n - 1, by omega⟩
              have hno : n - 1 = o := by omega
              obtain ⟨k, hk⟩ : ∃ k, k = a * o := ⟨_, rfl⟩
              have hkP : k + o ≤ P := by
                rw [HPP.out, hno, hk, ← Nat.succ_mul]
                exact Nat.mul_le_mul_right _ ha
              have hk1 : (a + 1) * o = k + o := by rw [hk, Nat.succ_mul]
              have hgo := wrG_go hw0
              rw [hno] at hsa hI hgo
              rw [← hk] at hsa hI
              have hsa' := hsa (by omega)
              subst hsa'
              obtain ⟨D, hD⟩ : ∃ D, D = rowD n (g * B.r + a) := ⟨_, rfl⟩
              obtain ⟨z, hz⟩ : ∃ z, z = 5 + (g * B.r + (a : Int)) := ⟨_, rfl⟩
              obtain ⟨Ra, hRa⟩ : ∃ Ra, Ra = (wrG B n g q fb nb R a).2 := ⟨_, rfl⟩
              rw [← hD, ← hz] at hrow hgo
              rw [← hRa] at hgo hI
              have hRn : Ra.n = R.n := by rw [hRa, wrG_n]
              have hrE : Hid (rowF (fun j => (F (k + j)).zs) o = rowE q fb nb o a) := by
                show _ = _
                unfold rowE rowF
                funext c
                by_cases hc : c < o
                · rw [if_pos hc, if_pos hc]
                  show (F (k + c)).zs = _
                  rw [HFZ.out (k + c) (by omega), hk]
                · rw [if_neg hc, if_neg hc]
                  exact parL_congr fun i hi => by show (F (k + i)).zs = _; rw [HFZ.out (k + i) (by omega), hk]
              have hwr := writeRow_any (w := X.drew) (n := n) (o := o) (C := W8.heap.size) (D := D) (v := v) z (some ⟨gS, k, none⟩) (P - k) (fun j => F (k + j)) hI.rk.drew hI.bn.drew (by rw [hRn]; exact HBM.out) ho (by omega) hn (hrow.next (below_drewN (Below.refl _ _) 1)) (fun y hy => by
                  have h1 := HS9.out
                  rcases hy with hy | hy | hy
                  · have := HR.out.low y hy; have := h68; have := HB6.out.size; omega
                  · omega
                  · omega) ((hI.rb.part hkP).drewN 1) (fun i hi x hx hm => by
                  have h1 := HF9.out (k + i) (by omega) x hx
                  rcases hm with hm | hm | hm
                  · have := HR.out.low _ hm; omega
                  · exact h1.2.1 hm
                  · exact h1.1 hm)
              rw [hrE.out, ← hgo] at hwr
              obtain ⟨er, her⟩ : ∃ er, er = if (wrG B n g q fb nb R (a + 1)).1 then (12 : Int) else 0 := ⟨_, rfl⟩
              rw [← her] at hwr
              obtain ⟨gr, cr, rfl, _⟩ := hrow.val
              have hsub : IntKind.i64.wrap ((n : Int) - 1) = (o : Int) := by rw [show (n : Int) - 1 = (o : Int) by omega]; exact IntWalk.i64_in _ (by omega)
              have c0 := hI.k0.1
              have c9 := hI.k9.1
              have hlen : o ≤ P - k := by omega
              have HER := Lib.hid her
              have HI := Lib.hid hI
              have HRN := Lib.hid hRn
              have HRA := Lib.hid hRa
              have HK1 : Hid ((a + 1) * (n - 1) = k + o) := by show _ = _; rw [hno]; exact hk1
              have HPM : Hid (P ≤ 60) := by show _ ≤ _; rw [HPP.out]; exact Nat.le_trans (Nat.mul_le_mul (show m ≤ 4 by omega) (show n - 1 ≤ 15 by omega)) (by omega)
              have hP60 : P ≤ 60 := HPM.out
              clear hsa hI hgo hno hk1 hk hrow hD hz hRa hRn her hw0
              gi_wp2
              refine wpIn_region_held (S := fun w' => w'.cell? ⟨p0, 0, none⟩ = some (.pointer (some ⟨b, 0, none⟩)) ∧ w'.cell? ⟨p9, 0, none⟩ = some (.slice (some ⟨gS, k, none⟩) (P - k) (P - k))) (by kernel_rfl) (by kernel_rfl) (by rintro ⟨a, w, h⟩; exact h) ?_ (fun hHeld => ?_)
              · exact ⟨c0, c9⟩
              refine rgY 0 ?_ rfl (by kernel_rfl) (fun _ _ _ h => h) (.inl ⟨by rfl, fun w hSw => ?_⟩) (by assumption) ?_
              rotate_left
              · (try dsimp only at hSw); go_simp; try with_reducible rfl
              simp only [Act.put, rg1, rg2, rg3, rg4, rg6]
              refine rgY 1 ?_ rfl (by kernel_rfl) (fun _ _ _ h => h) (.inl ⟨by rfl, fun w hSw => ?_⟩) (by assumption) ?_
              rotate_left
              · (try dsimp only at hSw); go_simp; try with_reducible rfl
              simp only [Act.put, rg1, rg2, rg3, rg4, rg5, rg6]
              refine rgY 2 ?_ rfl (by kernel_rfl) (fun _ _ _ h => h) (.inl ⟨by rfl, fun w hSw => ?_⟩) (by assumption) ?_
              rotate_left
              · (try dsimp only at hSw); go_simp; try with_reducible rfl
              simp only [Act.put, rg1, rg2, rg3, rg4, rg5, rg6]
              refine rgY 3 ?_ rfl (by kernel_rfl) (fun _ _ _ h => h) (.inl ⟨by rfl, fun w hSw => ?_⟩) (by assumption) ?_
              rotate_left
              · (try dsimp only at hSw); go_simp; try with_reducible rfl
              simp only [Act.put, rg1, rg2, rg3, rg4, rg5, rg6]
              refine rgY 4 ?_ rfl (by kernel_rfl) (fun _ _ _ h => h) (.inl ⟨by rfl, fun w hSw => ?_⟩) (by assumption) ?_
              rotate_left
              · (try dsimp only at hSw); go_simp; try with_reducible rfl
              simp only [Act.put, rg1, rg2, rg3, rg4, rg5, rg6]
              refine wpAnyH_ready (rs := [5]) (by kernel_rfl) (by simp) ?_
              refine AllReadyH.cons rfl (fun K hK => ?_) AllReadyH.nil
              simp only [List.getElem_toArray, List.getElem_cons_succ, List.getElem_cons_zero]
              go_simp
              refine hwr.mono ?_
              rintro e X5 ⟨rfl, hr5, ht5⟩
              have ht5 := ht5.undrw
              have hI5 := HI.out.turn HA.out HRN.out hr5 ht5
              have c0' := hI5.k0.1
              have c9' := hI5.k9.1
              have HI5 := Lib.hid hI5
              have HT5 := Lib.hid ht5
              clear hwr hr5 ht5 hI5 c0 c9
              go_wp2_with (fail)
              refine hK.out _ _ ⟨c0', c9'⟩ (fun hHeld => ?_)
              clear hK K
              refine rgY 6 ?_ rfl (by kernel_rfl) (fun _ _ _ h => h) (.inl ⟨by rfl, fun w hSw => ?_⟩) (by assumption) ?_
              rotate_left
              · (try dsimp only at hSw); go_simp; try with_reducible rfl
              simp only [Act.put, rg1, rg2, rg3, rg4, rg5, rg6]
              refine wpAnyH_done (by kernel_rfl) ?_ _
              clear hHeld
              cases hde : (wrG B n g q fb nb R (a + 1)).1 with
              | true =>
                have he : er = 12 := by rw [HER.out, hde]; rfl
                have hfin := wrG_end (B := B) (n := n) (g := g) (q := q) (fb := fb) (nb := nb) (R := R) (a := a + 1) (m := m) ha hde
                have hV : Hid (vv = 12) := by show _ = _; rw [HV.out, hfin, hde]; rfl
                have hR : Hid (R' = (wrG B n g q fb nb R (a + 1)).2) := by show _ = _; rw [HR'.out, hfin]
                have HFIN := Lib.hid hfin
                obtain ⟨c1, f1⟩ := HI5.out.k1
                clear HER hfin hde
                subst he
                gi_wp2
                refine ⟨(HT5.out.mono fun k hk => .inl (by rw [HRN.out] at hk; exact hk)).trans (Turn.setCell (a := ⟨p1, 0, none⟩) _ (.inr (.inl rfl)) _), rfl, hV.out, by rw [hR.out, HFIN.out], HI5.out.k1.set _, ?_, HI5.out.tn.off (by have := HP.out; omega) _⟩
                rw [hR.out]
                exact HI5.out.rk.store (.inr (.inl rfl)) (by rw [wrG_n]; intro x; have := hMlow.out _ x; have := HP.out; omega) _
              | false =>
                have he : er = 0 := by rw [HER.out, hde]; rfl
                have HDE := Lib.hid hde
                obtain ⟨c9, f9⟩ := HI5.out.k9
                clear HER hde
                subst he
                by_cases hko : o = P - k
                · have hko' : (o : Int) = ((P - k : Nat) : Int) := by omega
                  gi_wp2
                  have hI6 := HI5.out.put HA.out (wrG_n _ _ _ _ _ _ _ _) (k + o) (some ⟨gS, k, none⟩)
                  rw [show P - (k + o) = 0 by omega] at hI6
                  refine ⟨(HT5.out.mono fun k hk => .inl (by rw [HRN.out] at hk; exact hk)).trans (Turn.setCell (a := ⟨p9, 0, none⟩) _ (.inr (.inr rfl)) _), _, HDE.out, fun h => ?_, by rw [HK1.out]; exact hI6⟩
                  rw [HK1.out] at h
                  omega
                · have hko' : ¬ (o : Int) = ((P - k : Nat) : Int) := by omega
                  gi_wp2
                  have hI6 := HI5.out.put HA.out (wrG_n _ _ _ _ _ _ _ _) (k + o) (some ⟨gS, k + o, none⟩)
                  rw [show P - (k + o) = P - k - o by omega] at hI6
                  exact ⟨(HT5.out.mono fun k hk => .inl (by rw [HRN.out] at hk; exact hk)).trans (Turn.setCell (a := ⟨p9, 0, none⟩) _ (.inr (.inr rfl)) _), _, HDE.out, fun _ => by rw [HK1.out], by rw [HK1.out]; exact hI6⟩
            case done =>
              rintro D X hD ⟨sa, hw0, _, hI⟩ hK
              have hR : Hid (R' = (wrG B n g q fb nb R m).2) := HR'.out
              have hVV : Hid (vv = if twoB B R' n then 14 else 0) := by show _ = _; rw [HV.out, hw0, hR.out]; rfl
              have hRn : R'.n = R.n := by rw [hR.out, wrG_n]
              rw [← hR.out] at hI
              have hby := beyond_any hI.rk hI.bn HD.out hn
              have c0 := hI.k0.1
              have hDl : p1 < D := by have := HI0.out.k1.lt; omega
              have HRn := Lib.hid hRn
              have HI := Lib.hid hI
              have HKD := Lib.hid hK
              obtain ⟨er, her⟩ : ∃ er, er = (if twoB B R' n then (14 : Int) else 0) := ⟨_, rfl⟩
              have hfin : Hid (∀ W' e, e = vv → Below X.heap.size X W' → Cel p1 (.int .i64 0) W' ∧ Hid (Cel p1 (.int .i64 e) (W'.setCell ⟨p1, 0, none⟩ (.int .i64 e)) ∧ RackAt (W'.setCell ⟨p1, 0, none⟩ (.int .i64 e)) (also M (fun k => k = p1 ∨ k = p9)) L R' ∧ Turn (L.M R.n) w (W'.setCell ⟨p1, 0, none⟩ (.int .i64 e)) ∧ (W'.setCell ⟨p1, 0, none⟩ (.int .i64 e)).heap[D]? = some (.deferred (some [])))) := fun W' e _ hb' => by
                have hI' := HI.out.next hb'
                exact ⟨hI'.k1, hI'.k1.set _, hI'.rk.store (.inr (.inl rfl)) (by rw [HRn.out]; intro x; have := hMlow.out _ x; have := HP.out; omega) _, hI'.tn.off (by have := HP.out; omega) _, (Below.heap_setCell W' ⟨p1, 0, none⟩ (.int .i64 e) D (by show D ≠ p1; omega)).trans ((hb'.block D (Array.getElem?_eq_some_iff.1 HKD.out).1).trans HKD.out)⟩
              clear hw0 hI hK hRn her HE
              cases hbe : twoB B R' n with
              | true =>
                have hv : Hid (vv = 14) := by show _ = _; rw [hVV.out, hbe]; rfl
                rw [hbe] at hby
                clear hbe
                go_wp2_with (go_at_call 53; refine hby.mono ?_; clear hby; rintro e W7 ⟨rfl, b7⟩; obtain ⟨⟨c1, f1⟩, HF⟩ := hfin.out W7 14 hv.out.symm b7; clear b7 hfin)
                refine ⟨by simp, .inl ⟨_, _, rfl, run_takeDeferred HF.out.2.2.2, ?_⟩⟩
                have hA := aside_put HF.out.2.2.2 rfl (.deferred none)
                have r0 := (HF.out.1.aside hA).1
                have hDM : ¬ L.M R'.n D := by rw [HRn.out]; intro x; have := hMlow.out _ x; omega
                refine ⟨_, ?_, by rw [hv.out], (HF.out.2.1.aside hA hDM).narrow (M := M) (fun k hk => .inl hk) (by rw [HRn.out]; exact HR.out.sub), HF.out.2.2.1.aside hA (by omega)⟩
                simp [results, Tryz.f22, go_sem, r0]
              | false =>
                have hv : Hid (vv = 0) := by show _ = _; rw [hVV.out, hbe]; rfl
                rw [hbe] at hby
                clear hbe
                go_wp2_with (go_at_call 53; refine hby.mono ?_; clear hby; rintro e W7 ⟨rfl, b7⟩; obtain ⟨⟨c1, f1⟩, HF⟩ := hfin.out W7 0 hv.out.symm b7; clear b7 hfin)
                refine ⟨by simp, .inl ⟨_, _, rfl, run_takeDeferred HF.out.2.2.2, ?_⟩⟩
                have hA := aside_put HF.out.2.2.2 rfl (.deferred none)
                have r0 := (HF.out.1.aside hA).1
                have hDM : ¬ L.M R'.n D := by rw [HRn.out]; intro x; have := hMlow.out _ x; omega
                refine ⟨_, ?_, by rw [hv.out], (HF.out.2.1.aside hA hDM).narrow (M := M) (fun k hk => .inl hk) (by rw [HRn.out]; exact HR.out.sub), HF.out.2.2.1.aside hA (by omega)⟩
                simp [results, Tryz.f22, go_sem, r0]
            case stop =>
              rintro D c X hD ⟨rfl, hv, hR, h1, hrk, ht⟩ hK
              gi_wp2
              refine ⟨by simp, .inl ⟨_, _, rfl, run_takeDeferred hK, ?_⟩⟩
              have hA := aside_put hK rfl (.deferred none)
              have r0 := (h1.aside hA).1
              have hDM : ¬ L.M R'.n D := by rw [hR, wrG_n]; intro x; have := hMlow.out _ x; omega
              refine ⟨.int .i64 12, ?_, by rw [hv], (hrk.aside hA hDM).narrow (M := M) (fun k hk => .inl hk) (by rw [hR, wrG_n]; exact HR.out.sub), ht.aside hA (by omega)⟩
              simp [results, Tryz.f22, go_sem, r0]
      · have hrg : rgO B g q = false := by rw [rgO, hs, Bool.true_and]; exact decide_eq_false (fun x => h2 x.2)
        have g1 : ¬ q < 1 := by omega
        have g2 : 4294967295 < q := by omega
        clear hs h1 h2
        have hV : Hid (vv = 28) := by show _ = _; rw [HV.out, if_pos hrg]
        have hR : Hid (R' = R) := by show _ = _; rw [HR'.out, if_pos hrg]
        obtain ⟨⟨c1, f1⟩, HF⟩ := HE.out 28 W3 HB3.out K1'.out
        clear hrg HE
        go_wp2_with (fail)
        have r1 := HF.out.1.1
        refine ⟨.int .i64 28, ?_, by rw [hV.out], by rw [hR.out]; exact HR.out.below HF.out.2, Turn.of_below HF.out.2⟩
        simp [results, Tryz.f22, go_sem, r1]
    · have hrg : rgO B g q = false := by rw [rgO, hs, Bool.true_and]; exact decide_eq_false (fun x => h1 x.1)
      have g1 : q < 1 := by omega
      clear hs h1
      have hV : Hid (vv = 28) := by show _ = _; rw [HV.out, if_pos hrg]
      have hR : Hid (R' = R) := by show _ = _; rw [HR'.out, if_pos hrg]
      obtain ⟨⟨c1, f1⟩, HF⟩ := HE.out 28 W3 HB3.out K1'.out
      clear hrg HE
      go_wp2_with (fail)
      have r1 := HF.out.1.1
      refine ⟨.int .i64 28, ?_, by rw [hV.out], by rw [hR.out]; exact HR.out.below HF.out.2, Turn.of_below HF.out.2⟩
      simp [results, Tryz.f22, go_sem, r1]
end

end Go.Proofs.YtegmeoghonolcaaGreat
