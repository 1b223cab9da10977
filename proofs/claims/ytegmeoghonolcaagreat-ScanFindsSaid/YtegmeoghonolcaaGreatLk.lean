/-
  The scan's Look, by contract: is the power on; what a segment tells.
-/
import Derived.Test.YtegmeoghonolcaaGreatWhb
import Derived.Test.YtegmeoghonolcaaGreatRda
import Derived.Test.YtegmeoghonolcaaGreatSta
import Derived.Test.YtegmeoghonolcaaGreatAl8
set_option linter.unusedSimpArgs false
set_option linter.unusedVariables false
namespace Go.Proofs.YtegmeoghonolcaaGreat
open Go.RowKit
set_option linter.unusedVariables false
section
variable {w0 w w' : World} {M : Nat → Prop} {L : Lay} {b : Nat} {R : Rk} {B : Bn}
structure Sm8 (B : Bn) : Prop where
  d : B.d = 3
  r : B.r = 3
  s : B.s = 12
theorem decLn_le (z : List Int) : (decL z).length ≤ 56 := by
  unfold decL decO
  split
  · rename_i h; have := of_decide_eq_true h; rw [List.length_drop]; omega
  · exact Nat.zero_le _
theorem Sm8.rt {B : Bn} (h : Sm8 B) : Rt B.d B.r B.s := by rw [h.d, h.r, h.s]; exact rt_small
theorem s8_whole (hB : Sm8 B) (g : Int) (h : St w0 M L b R B w) :
    Calls Tryz.prog 80 #[.pointer (some ⟨b, 0, none⟩), .int .i64 g] w fun e w' => e = .returned (.tuple #[.int .i64 ((whR B R 3 3 g).getD 0), .bool (whR B R 3 3 g).isSome, .int .i64 (chkE R (segO B g))]) ∧ St w0 M L b R B w' ∧ Below w.heap.size w w' :=
  (sWhole_any (n := 3) (m := 3) g h.rk h.bk hB.d (by omega) hB.r).mono fun _ _ hh => ⟨hh.1, h.next hh.2, hh.2⟩
theorem s8_sread (hB : Sm8 B) (g k q : Int) (h : St w0 M L b R B w) :
    Calls Tryz.prog 81 #[.pointer (some ⟨b, 0, none⟩), .int .i64 g, .int .i64 k, .int .i64 q] w fun e w' => ∃ a n c, e = .returned (.tuple #[blV (decN (rbL B R 3 g k q) 4 2) (decN (rbL B R 3 g k q) 6 2) a n c, .int .i64 (rbE B R 3 g k q)]) ∧ Pin w' a n c (decL (rbL B R 3 g k q)) ∧ St w0 M L b R B w' ∧ Below w.heap.size w w' :=
  (sRead_any (n := 3) g k q h.rk h.bk hB.d (by omega)).mono fun _ _ hh => by
    obtain ⟨a, n, c, e, hp, hb⟩ := hh
    exact ⟨a, n, c, e, hp, h.next hb, hb⟩
theorem isOn_any (hB : Sm8 B) (h : St w0 M L b R B w) :
    Calls Tryz.prog 40 #[.pointer (some ⟨b, 0, none⟩)] w fun e w' => e = .returned (.bool (!R.off)) ∧ Below w.heap.size w w' := by
  have hg := geo_any (b := b) (B := B) h.bk
  have hrt := fun W => right_yes B.d B.r B.s W hB.rt
  obtain ⟨o, ho⟩ : ∃ o, o = R.off := ⟨_, rfl⟩
  rw [← ho]
  have HO := Lib.hid ho
  have HH := Lib.hid h
  clear h ho
  go_enter Tryz.func40, Tryz.ntmps40
  go_wp2_with (fail)
  refine hg.mono ?_
  rintro e w1 ⟨rfl, hb1⟩
  have HB1 := Lib.hid hb1
  clear hg hb1
  go_wp2_with (fail)
  refine (hrt _).mono ?_
  rintro e w2 ⟨rfl, hb2⟩
  have hbb := HB1.out.trans (hb2.mono HB1.out.size)
  have hof := boff_any (HH.out.next hbb).rk (HH.out.next hbb).bk
  have HBB := Lib.hid hbb
  rw [← HO.out] at hof
  clear hbb hb2 hrt
  go_wp2_with (fail)
  refine hof.mono ?_
  rintro e w3 ⟨rfl, rfl⟩
  clear hof
  cases o
  · go_wp2_with (fail)
    go_ret
    exact ⟨rfl, HBB.out⟩
  · go_wp2_with (fail)
    go_ret
    exact ⟨rfl, HBB.out⟩

structure M6 (w : World) (b : Nat) (p0 p1 p2 p3 p4 p5 : Int) : Prop where
  lt : b < w.heap.size
  c0 : w.cell? ⟨b, 0, none⟩ = some (.int .i64 p0)
  c1 : w.cell? ⟨b, 1, none⟩ = some (.int .i64 p1)
  c2 : w.cell? ⟨b, 2, none⟩ = some (.int .i64 p2)
  c3 : w.cell? ⟨b, 3, none⟩ = some (.int .i64 p3)
  c4 : w.cell? ⟨b, 4, none⟩ = some (.int .i64 p4)
  c5 : w.cell? ⟨b, 5, none⟩ = some (.int .i64 p5)
  f0 : w.frozen? ⟨b, 0, none⟩ = false
  f1 : w.frozen? ⟨b, 1, none⟩ = false
  f2 : w.frozen? ⟨b, 2, none⟩ = false
  f3 : w.frozen? ⟨b, 3, none⟩ = false
  f4 : w.frozen? ⟨b, 4, none⟩ = false
  f5 : w.frozen? ⟨b, 5, none⟩ = false
theorem M6.next {w w' : World} {b : Nat} {p0 p1 p2 p3 p4 p5 : Int} (h : M6 w b p0 p1 p2 p3 p4 p5) (hb : Below w.heap.size w w') : M6 w' b p0 p1 p2 p3 p4 p5 :=
  ⟨Nat.lt_of_lt_of_le h.lt hb.size, (hb.cell (p := ⟨b, 0, none⟩) h.lt).trans h.c0, (hb.cell (p := ⟨b, 1, none⟩) h.lt).trans h.c1, (hb.cell (p := ⟨b, 2, none⟩) h.lt).trans h.c2, (hb.cell (p := ⟨b, 3, none⟩) h.lt).trans h.c3, (hb.cell (p := ⟨b, 4, none⟩) h.lt).trans h.c4, (hb.cell (p := ⟨b, 5, none⟩) h.lt).trans h.c5,
    (hb.frozen (p := ⟨b, 0, none⟩) h.lt).trans h.f0, (hb.frozen (p := ⟨b, 1, none⟩) h.lt).trans h.f1, (hb.frozen (p := ⟨b, 2, none⟩) h.lt).trans h.f2, (hb.frozen (p := ⟨b, 3, none⟩) h.lt).trans h.f3, (hb.frozen (p := ⟨b, 4, none⟩) h.lt).trans h.f4, (hb.frozen (p := ⟨b, 5, none⟩) h.lt).trans h.f5⟩
theorem M6.mk' (w : World) (p0 p1 p2 p3 p4 p5 : Int) (ty : TypeId) : M6 (w.alloc (.cells #[.int .i64 p0, .int .i64 p1, .int .i64 p2, .int .i64 p3, .int .i64 p4, .int .i64 p5] ty (0, 0))) w.heap.size p0 p1 p2 p3 p4 p5 := ⟨by simp, by simp, by simp, by simp, by simp, by simp, by simp, by simp, by simp, by simp, by simp, by simp, by simp⟩
def set6 (w : World) (b : Nat) (p0 p1 p2 p3 p4 p5 : Int) : World := ((((((w.setCell ⟨b, 0, none⟩ (.int .i64 p0)).setCell ⟨b, 1, none⟩ (.int .i64 p1)).setCell ⟨b, 2, none⟩ (.int .i64 p2)).setCell ⟨b, 3, none⟩ (.int .i64 p3)).setCell ⟨b, 4, none⟩ (.int .i64 p4)).setCell ⟨b, 5, none⟩ (.int .i64 p5))
theorem M6.set {w : World} {b : Nat} {p0 p1 p2 p3 p4 p5 : Int} (h : M6 w b p0 p1 p2 p3 p4 p5) (q0 q1 q2 q3 q4 q5 : Int) : M6 (set6 w b q0 q1 q2 q3 q4 q5) b q0 q1 q2 q3 q4 q5 := by
  refine ⟨by simpa [set6] using h.lt, ?_, ?_, ?_, ?_, ?_, ?_, by simpa [set6] using h.f0, by simpa [set6] using h.f1, by simpa [set6] using h.f2, by simpa [set6] using h.f3, by simpa [set6] using h.f4, by simpa [set6] using h.f5⟩
  · rw [set6, set_othG (by simp), set_othG (by simp), set_othG (by simp), set_othG (by simp), set_othG (by simp), set_sameG h.c0]
  · rw [set6, set_othG (by simp), set_othG (by simp), set_othG (by simp), set_othG (by simp), set_sameG ((set_othG (by simp)).trans h.c1)]
  · rw [set6, set_othG (by simp), set_othG (by simp), set_othG (by simp), set_sameG ((set_othG (by simp)).trans ((set_othG (by simp)).trans h.c2))]
  · rw [set6, set_othG (by simp), set_othG (by simp), set_sameG ((set_othG (by simp)).trans ((set_othG (by simp)).trans ((set_othG (by simp)).trans h.c3)))]
  · rw [set6, set_othG (by simp), set_sameG ((set_othG (by simp)).trans ((set_othG (by simp)).trans ((set_othG (by simp)).trans ((set_othG (by simp)).trans h.c4))))]
  · rw [set6, set_sameG ((set_othG (by simp)).trans ((set_othG (by simp)).trans ((set_othG (by simp)).trans ((set_othG (by simp)).trans ((set_othG (by simp)).trans h.c5)))))]
theorem below_set6 {w0 w : World} {B b : Nat} {p0 p1 p2 p3 p4 p5 : Int} (h : Below B w0 w) (hb : B ≤ b) : Below B w0 (set6 w b p0 p1 p2 p3 p4 p5) := ((((((h.setCell (p := ⟨b, 0, none⟩) hb _).setCell (p := ⟨b, 1, none⟩) hb _).setCell (p := ⟨b, 2, none⟩) hb _).setCell (p := ⟨b, 3, none⟩) hb _).setCell (p := ⟨b, 4, none⟩) hb _).setCell (p := ⟨b, 5, none⟩) hb _)
/-- What a segment tells. -/
noncomputable def lkS (B : Bn) (R : Rk) (g q : Int) : Bool := gsO B.d B.r B.s (decN (rbL B R 3 g 0 q) 4 2) (decN (rbL B R 3 g 0 q) 6 2) (decL (rbL B R 3 g 0 q)).length (decL (rbL B R 3 g 0 q))
noncomputable def lkT (B : Bn) (R : Rk) (g q k : Int) : Int := tv (decL (rbL B R 3 g 0 q)).length (decL (rbL B R 3 g 0 q)) k
noncomputable def lkI (B : Bn) (R : Rk) (g : Int) : Option Inf :=
  match whR B R 3 3 g with
  | none => none
  | some q => if lkS B R g q then some ⟨g, q, lkT B R g q 1, lkT B R g q 2, lkT B R g q 3, lkT B R g q 4⟩ else none
def LkPost (o : Option Inf) (w0 : World) (e : Ending) (w' : World) : Prop := e = .returned (.tuple #[ifv (o.getD ⟨0, 0, 0, 0, 0, 0⟩), .bool o.isSome]) ∧ Below w0.heap.size w0 w'
set_option maxRecDepth 100000 in
set_option maxHeartbeats 4000000 in
theorem infoOf_any (hB : Sm8 B) (g : Int) (h : St w0 M L b R B w) :
    Calls Tryz.prog 42 #[.pointer (some ⟨b, 0, none⟩), .int .i64 g] w (LkPost (lkI B R g) w) := by
  obtain ⟨X, hX⟩ : ∃ X, X = w.alloc (.cells #[.int .i64 0, .int .i64 0, .int .i64 0, .int .i64 0, .int .i64 0, .int .i64 0] 59 (0, 0)) := ⟨_, rfl⟩
  obtain ⟨p, hp⟩ : ∃ p, p = w.heap.size := ⟨_, rfl⟩
  have hBX : Below p w X := by rw [hX, hp]; exact (Below.refl _ _).alloc (Nat.le_refl _) _
  have hm : M6 X p 0 0 0 0 0 0 := by rw [hX, hp]; exact M6.mk' _ _ _ _ _ _ _ _
  have hwh := s8_whole hB g (h.next (hp ▸ hBX))
  obtain ⟨v, hv⟩ : ∃ v, v = whR B R 3 3 g := ⟨_, rfl⟩
  obtain ⟨LK, hLK⟩ : ∃ LK, LK = lkI B R g := ⟨_, rfl⟩
  have hlk := hLK
  unfold lkI at hlk
  rw [← hv] at hwh hlk
  rw [← hLK]
  have HLK := Lib.hid hlk
  have HP := Lib.hid hp
  have HX := Lib.hid (And.intro hBX (And.intro hm (And.intro h hv)))
  have HSM := Lib.hid hB
  clear hBX hm h hlk hLK hv hB
  go_enter Tryz.func42, Tryz.ntmps42
  go_wp2_with (fail)
  rw [← hX, ← hp]
  clear hX hp
  refine hwh.mono ?_
  rintro e w1 ⟨rfl, hst1, hb1⟩
  have hm1 := HX.out.2.1.next hb1
  have hB1 : Below p w w1 := HX.out.1.trans (hb1.mono (by rw [HP.out]; exact HX.out.1.size))
  have HS1 := Lib.hid (And.intro hst1 (And.intro hm1 hB1))
  clear hst1 hb1 hwh
  cases v with
  | none =>
    have c0 := hm1.c0
    have c1 := hm1.c1
    have c2 := hm1.c2
    have c3 := hm1.c3
    have c4 := hm1.c4
    have c5 := hm1.c5
    have f0 := hm1.f0
    have f1 := hm1.f1
    have f2 := hm1.f2
    have f3 := hm1.f3
    have f4 := hm1.f4
    have f5 := hm1.f5
    clear hm1 hB1
    go_wp2_with (fail)
    have hm2 := HS1.out.2.1.set 0 0 0 0 0 0
    have k0 := hm2.c0
    have k1 := hm2.c1
    have k2 := hm2.c2
    have k3 := hm2.c3
    have k4 := hm2.c4
    have k5 := hm2.c5
    unfold set6 at k0 k1 k2 k3 k4 k5
    have hbe := below_set6 (p0 := 0) (p1 := 0) (p2 := 0) (p3 := 0) (p4 := 0) (p5 := 0) HS1.out.2.2 (Nat.le_refl p)
    have hbe' := hbe.mono (by rw [HP.out]; exact Nat.le_refl _)
    exact bodyPost_ret (v := .tuple #[.agg #[.int .i64 0, .int .i64 0, .int .i64 0, .int .i64 0, .int .i64 0, .int .i64 0], .bool false]) (by simp [results, Tryz.results42, go_sem, k0, k1, k2, k3, k4, k5]) rfl ⟨by rw [HLK.out]; rfl, hbe'⟩
  | some q =>
    clear hm1 hB1
    have hrd1 := s8_sread HSM.out g 0 q HS1.out.1
    go_wp2_with (fail)
    refine hrd1.mono ?_
    rintro e w2 ⟨xa, xn, xc, rfl, hpin, hst2, hb2⟩
    obtain ⟨zs, hzs⟩ : ∃ zs, zs = rbL B R 3 g 0 q := ⟨_, rfl⟩
    rw [← hzs] at hpin ⊢
    obtain ⟨o1, ho1⟩ : ∃ o1, o1 = decN zs 4 2 := ⟨_, rfl⟩
    obtain ⟨i1, hi1⟩ : ∃ i1, i1 = decN zs 6 2 := ⟨_, rfl⟩
    rw [← ho1, ← hi1]
    obtain ⟨W3, hW3⟩ : ∃ W3, W3 = w2.alloc (.cells #[.int .i64 o1, .int .i64 i1, .slice xa xn xc] 65 (0, 0)) := ⟨_, rfl⟩
    obtain ⟨gb, hgb⟩ : ∃ gb, gb = w2.heap.size := ⟨_, rfl⟩
    have hb3 : Below w2.heap.size w2 W3 := by rw [hW3]; exact (Below.refl _ _).alloc (Nat.le_refl _) _
    have hx3 : Gx W3 gb o1 i1 (.slice xa xn xc) := by rw [hW3, hgb]; exact Gx.mk' _ _ _ _ _
    have hm3 := (HS1.out.2.1.next hb2).next hb3
    have hB3 : Below p w W3 := HS1.out.2.2.trans ((hb2.trans (hb3.mono hb2.size)).mono (by rw [HP.out]; exact HS1.out.2.2.size))
    have hst3 := hst2.next hb3
    have hpin3 := hpin.next hb3
    have HZ := Lib.hid (And.intro hzs (And.intro ho1 hi1))
    have H3 := Lib.hid (And.intro hx3 (And.intro hm3 (And.intro hB3 (And.intro hst3 hpin3))))
    have b0 := hx3.c0
    have b1 := hx3.c1
    have b2 := hx3.c2
    have HGX := Lib.hid hx3
    have hxn : (decL zs).length = xn := hpin3.bys.len
    have hx56 : xn ≤ 56 := by rw [← hxn]; exact decLn_le zs
    obtain ⟨ok, hok⟩ : ∃ ok, ok = gsO B.d B.r B.s o1 i1 xn (decL zs) := ⟨_, rfl⟩
    obtain ⟨t1, ht1⟩ : ∃ t, t = if ok then tv xn (decL zs) 1 else 0 := ⟨_, rfl⟩
    obtain ⟨t2, ht2⟩ : ∃ t, t = if ok then tv xn (decL zs) 2 else 0 := ⟨_, rfl⟩
    obtain ⟨t3, ht3⟩ : ∃ t, t = if ok then tv xn (decL zs) 3 else 0 := ⟨_, rfl⟩
    obtain ⟨t4, ht4⟩ : ∃ t, t = if ok then tv xn (decL zs) 4 else 0 := ⟨_, rfl⟩
    have hget : ∀ W, Below W3.heap.size W3 W → Calls Tryz.prog 25 #[gv B.d B.r B.s, .agg #[.int .i64 o1, .int .i64 i1, .slice xa xn xc]] W fun e w' => e = .returned (.tuple #[.agg #[.int .i64 t1, .int .i64 t2, .int .i64 t3, .int .i64 t4], .bool ok]) ∧ Below W.heap.size W w' := fun W hb => by
      have := getSum_any B.d B.r B.s o1 i1 xa xn xc (decL zs) W (hpin3.next hb).bys (by omega)
      rw [← hok] at this
      rw [ht1, ht2, ht3, ht4]
      cases ok
      · exact this
      · exact this
    have HGET := Lib.hid hget
    have hlkT : ok = lkS B R g q ∧ (ok = true → t1 = lkT B R g q 1 ∧ t2 = lkT B R g q 2 ∧ t3 = lkT B R g q 3 ∧ t4 = lkT B R g q 4) := by
      unfold lkS lkT
      rw [← HZ.out.1, ← HZ.out.2.1, ← HZ.out.2.2, hxn]
      refine ⟨hok, fun h => ?_⟩
      rw [ht1, ht2, ht3, ht4, if_pos h, if_pos h, if_pos h, if_pos h]
      exact ⟨rfl, rfl, rfl, rfl⟩
    have HLT := Lib.hid hlkT
    clear hget hlkT ht1 ht2 ht3 ht4 hok hxn
    have hge := fun W (hb : Below W3.heap.size W3 W) => geo_any (b := b) (B := B) (hst3.next hb).bk
    have HGE := Lib.hid hge
    have hld : gb < W3.heap.size := hx3.lt
    clear hzs ho1 hi1 hst2 hb2 hpin hb3 hx3 hm3 hB3 hst3 hpin3 hrd1 hge
    go_wp2_with (fail)
    rw [← hW3, ← hgb]
    clear hW3 hgb
    refine wp_region_held_drew (S := fun w' => w'.cell? ⟨gb, 0, none⟩ = some (.int .i64 o1) ∧ w'.cell? ⟨gb, 1, none⟩ = some (.int .i64 i1) ∧ w'.cell? ⟨gb, 2, none⟩ = some (.slice xa xn xc)) (by kernel_rfl) ?_ (fun hHeld => ?_)
    · exact ⟨b0, b1, b2⟩
    -- REGION
    have HBd : Hid (Below W3.heap.size W3 W3.drew) := below_drewN (Below.refl _ _) 1
    generalize hY1 : W3.drew = Y1 at *
    clear hY1
    refine rgY 0 ?_ rfl (by kernel_rfl) (fun _ _ _ h => h) (.inl ⟨by rfl, fun w hSw => ?_⟩) (by assumption) ?_
    rotate_left
    · (try dsimp only at hSw); go_simp; try with_reducible rfl
    simp only [Act.put, rg1, rg2, rg3, rg4, rg6]
    refine rgY 2 ?_ rfl (by kernel_rfl) (fun _ _ _ h => h) (.inl ⟨by rfl, fun w hSw => ?_⟩) (by assumption) ?_
    rotate_left
    · (try dsimp only at hSw); go_simp; try with_reducible rfl
    simp only [Act.put, rg1, rg2, rg3, rg4, rg5, rg6]
    refine wpAnyH_ready (rs := [1, 7]) (by kernel_rfl) (by simp) ?_
    refine AllReadyH.cons rfl (fun K hK => ?_) (AllReadyH.cons rfl (fun K hK => ?_) AllReadyH.nil)
    · simp only [List.getElem_toArray, List.getElem_cons_succ, List.getElem_cons_zero]
      go_simp
      refine (HGE.out _ HBd.out).mono ?_
      rintro e w4 ⟨rfl, hb4⟩
      have HB4 := Lib.hid (HBd.out.trans (hb4.mono HBd.out.size))
      have hg4 := HGX.out.next HB4.out
      clear hb4
      go_wp2_with (fail)
      refine hK.out _ _ ⟨hg4.c0, hg4.c1, hg4.c2⟩ (fun hHeld => ?_)
      clear hK K hg4
      refine wpAnyH_ready (rs := [3, 7]) (by kernel_rfl) (by simp) ?_
      refine AllReadyH.cons rfl (fun K hK => ?_) (AllReadyH.cons rfl (fun K hK => ?_) AllReadyH.nil)
      · simp only [List.getElem_toArray, List.getElem_cons_succ, List.getElem_cons_zero]
        go_simp
        refine (HGET.out _ HB4.out).mono ?_
        rintro e w5 ⟨rfl, hb5⟩
        have HB5 := Lib.hid (HB4.out.trans (hb5.mono HB4.out.size))
        have hg5 := HGX.out.next HB5.out
        clear hb5
        go_wp2_with (fail)
        refine hK.out _ _ ⟨hg5.c0, hg5.c1, hg5.c2⟩ (fun hHeld => ?_)
        clear hK K
        refine rgY 4 ?_ rfl (by kernel_rfl) (fun _ _ _ h => h) (.inl ⟨by rfl, fun w hSw => ?_⟩) (by assumption) ?_
        rotate_left
        · (try dsimp only at hSw); go_simp; try with_reducible rfl
        simp only [Act.put, rg1, rg2, rg3, rg4, rg5, rg6]
        refine rgY 5 ?_ rfl (by kernel_rfl) (fun _ _ _ h => h) (.inl ⟨by rfl, fun w hSw => ?_⟩) (by assumption) ?_
        rotate_left
        · (try dsimp only at hSw); go_simp; try with_reducible rfl
        simp only [Act.put, rg1, rg2, rg3, rg4, rg5, rg6]
        refine rgY 6 ?_ rfl (by kernel_rfl) (fun _ _ _ h => h) (.inl ⟨by rfl, fun w hSw => ?_⟩) (by assumption) ?_
        rotate_left
        · (try dsimp only at hSw); go_simp; try with_reducible rfl
        simp only [Act.put, rg1, rg2, rg3, rg4, rg5, rg6]
        refine wpAnyH_ready (rs := [7]) (by kernel_rfl) (by simp) ?_
        refine AllReadyH.cons rfl (fun K hK => ?_) AllReadyH.nil
        simp only [List.getElem_toArray, List.getElem_cons_succ, List.getElem_cons_zero]
        go_simp
        have hg6 := hg5.next ((Below.refl _ _).alloc (Nat.le_refl _) (.cells #[.int .i64 0, .int .i64 0, .int .i64 0, .int .i64 0] 57 (0, 0)))
        refine hK.out _ _ ⟨hg6.c0, hg6.c1, hg6.c2⟩ (fun hHeld => ?_)
        clear hK K hg6
        refine wpAnyH_ready (rs := [8]) (by kernel_rfl) (by simp) ?_
        refine AllReadyH.cons rfl (fun K hK => ?_) AllReadyH.nil
        simp only [List.getElem_toArray, List.getElem_cons_succ, List.getElem_cons_zero]
        go_simp
        have hg7 := hg5.next ((Below.refl _ _).alloc (Nat.le_refl _) (.cells #[.int .i64 t1, .int .i64 t2, .int .i64 t3, .int .i64 t4] 57 (0, 0)))
        refine hK.out _ _ ⟨hg7.c0, hg7.c1, hg7.c2⟩ (fun hHeld => ?_)
        clear hK K hg7 hg5
        refine rgY 9 ?_ rfl (by kernel_rfl) (fun _ _ _ h => h) (.inl ⟨by rfl, fun w hSw => ?_⟩) (by assumption) ?_
        rotate_left
        · (try dsimp only at hSw); go_simp; try with_reducible rfl
        simp only [Act.put, rg1, rg2, rg3, rg4, rg5, rg6]
        obtain ⟨Z, hZ⟩ : ∃ Z, Z = w5.alloc (.cells #[.int .i64 t1, .int .i64 t2, .int .i64 t3, .int .i64 t4] 57 (0, 0)) := ⟨_, rfl⟩
        obtain ⟨tb, htb⟩ : ∃ tb, tb = w5.heap.size := ⟨_, rfl⟩
        have hm := M4.mk' w5 t1 t2 t3 t4 57
        have hbz : Below W3.heap.size W3 Z := by rw [hZ]; exact HB5.out.alloc HB5.out.size _
        rw [← hZ, ← htb] at hm ⊢
        clear hZ htb
        have hm6 := H3.out.2.1.next hbz
        have hBZ : Below p w Z := H3.out.2.2.1.trans (hbz.mono (Nat.le_trans (by rw [HP.out]; exact Nat.le_refl _) H3.out.2.2.1.size))
        have m0 := hm.c0
        have m1 := hm.c1
        have m2 := hm.c2
        have m3 := hm.c3
        have c0 := hm6.c0
        have c1 := hm6.c1
        have c2 := hm6.c2
        have c3 := hm6.c3
        have c4 := hm6.c4
        have c5 := hm6.c5
        have f0 := hm6.f0
        have f1 := hm6.f1
        have f2 := hm6.f2
        have f3 := hm6.f3
        have f4 := hm6.f4
        have f5 := hm6.f5
        have HM6 := Lib.hid (And.intro hm6 hBZ)
        clear hm6 hBZ hm hbz
        refine wpAnyH_done (by kernel_rfl) ?_ _
        clear hHeld
        cases ok
        · go_wp2_with (fail)
          have hm7 := HM6.out.1.set (0) (0) (0) (0) (0) (0)
          have k0 := hm7.c0
          have k1 := hm7.c1
          have k2 := hm7.c2
          have k3 := hm7.c3
          have k4 := hm7.c4
          have k5 := hm7.c5
          unfold set6 at k0 k1 k2 k3 k4 k5
          have hbe := below_set6 (p0 := 0) (p1 := 0) (p2 := 0) (p3 := 0) (p4 := 0) (p5 := 0) HM6.out.2 (Nat.le_refl p)
          have hbe' := hbe.mono (by rw [HP.out]; exact Nat.le_refl _)
          exact bodyPost_ret (v := .tuple #[.agg #[.int .i64 0, .int .i64 0, .int .i64 0, .int .i64 0, .int .i64 0, .int .i64 0], .bool false]) (by simp [results, Tryz.results42, go_sem, k0, k1, k2, k3, k4, k5]) rfl ⟨by
            rw [HLK.out]
            show _ = Ending.returned (.tuple #[ifv (Option.getD (if lkS B R g q = true then _ else none) _), .bool (Option.isSome (if lkS B R g q = true then _ else none))])
            rw [← HLT.out.1]
            rw [if_neg (by decide)]
            rfl, hbe'⟩
        · go_wp2_with (fail)
          have hm7 := HM6.out.1.set (g) (q) (t1) (t2) (t3) (t4)
          have k0 := hm7.c0
          have k1 := hm7.c1
          have k2 := hm7.c2
          have k3 := hm7.c3
          have k4 := hm7.c4
          have k5 := hm7.c5
          unfold set6 at k0 k1 k2 k3 k4 k5
          have hbe := below_set6 (p0 := g) (p1 := q) (p2 := t1) (p3 := t2) (p4 := t3) (p5 := t4) HM6.out.2 (Nat.le_refl p)
          have hbe' := hbe.mono (by rw [HP.out]; exact Nat.le_refl _)
          exact bodyPost_ret (v := .tuple #[.agg #[.int .i64 g, .int .i64 q, .int .i64 t1, .int .i64 t2, .int .i64 t3, .int .i64 t4], .bool true]) (by simp [results, Tryz.results42, go_sem, k0, k1, k2, k3, k4, k5]) rfl ⟨by
            rw [HLK.out]
            show _ = Ending.returned (.tuple #[ifv (Option.getD (if lkS B R g q = true then _ else none) _), .bool (Option.isSome (if lkS B R g q = true then _ else none))])
            rw [← HLT.out.1]
            obtain ⟨e1, e2, e3, e4⟩ := HLT.out.2 (by first | rfl | trivial)
            rw [if_pos rfl, ← e1, ← e2, ← e3, ← e4]
            rfl, hbe'⟩
      · simp only [List.getElem_toArray, List.getElem_cons_succ, List.getElem_cons_zero]
        go_simp
        obtain ⟨tb, htb⟩ : ∃ tb, tb = w4.heap.size := ⟨_, rfl⟩
        obtain ⟨w4a, hw4a⟩ : ∃ w4a, w4a = w4.alloc (.cells #[.int .i64 0, .int .i64 0, .int .i64 0, .int .i64 0] 57 (0, 0)) := ⟨_, rfl⟩
        have hm4 : M4 w4a tb 0 0 0 0 := by rw [hw4a, htb]; exact M4.mk' _ _ _ _ _ _
        have hb4a : Below W3.heap.size W3 w4a := by rw [hw4a]; exact HB4.out.alloc HB4.out.size _
        have htl : W3.heap.size ≤ tb := by rw [htb]; exact HB4.out.size
        have hg4 := HGX.out.next hb4a
        rw [← hw4a, ← htb]
        clear hw4a htb
        refine hK.out _ _ ⟨hg4.c0, hg4.c1, hg4.c2⟩ (fun hHeld => ?_)
        clear hK K hg4
        refine wpAnyH_ready (rs := [3]) (by kernel_rfl) (by simp) ?_
        refine AllReadyH.cons rfl (fun K hK => ?_) AllReadyH.nil
        simp only [List.getElem_toArray, List.getElem_cons_succ, List.getElem_cons_zero]
        go_simp
        refine (HGET.out _ hb4a).mono ?_
        rintro e w5 ⟨rfl, hb5⟩
        have HB5 := Lib.hid (hb4a.trans (hb5.mono hb4a.size))
        have hg5 := HGX.out.next HB5.out
        have hm5 := hm4.next hb5
        clear hb5 hm4 hb4a
        go_wp2_with (fail)
        refine hK.out _ _ ⟨hg5.c0, hg5.c1, hg5.c2⟩ (fun hHeld => ?_)
        clear hK K
        refine rgY 4 ?_ rfl (by kernel_rfl) (fun _ _ _ h => h) (.inl ⟨by rfl, fun w hSw => ?_⟩) (by assumption) ?_
        rotate_left
        · (try dsimp only at hSw); go_simp; try with_reducible rfl
        simp only [Act.put, rg1, rg2, rg3, rg4, rg5, rg6]
        refine rgY 5 ?_ rfl (by kernel_rfl) (fun _ _ _ h => h) (.inl ⟨by rfl, fun w hSw => ?_⟩) (by assumption) ?_
        rotate_left
        · (try dsimp only at hSw); go_simp; try with_reducible rfl
        simp only [Act.put, rg1, rg2, rg3, rg4, rg5, rg6]
        refine rgY 6 ?_ rfl (by kernel_rfl) (fun _ _ _ h => h) (.inl ⟨by rfl, fun w hSw => ?_⟩) (by assumption) ?_
        rotate_left
        · (try dsimp only at hSw); go_simp; try with_reducible rfl
        simp only [Act.put, rg1, rg2, rg3, rg4, rg5, rg6]
        have HM5 := Lib.hid hm5
        have HTB := Lib.hid htl
        have r0 := hm5.c0
        have r1 := hm5.c1
        have r2 := hm5.c2
        have r3 := hm5.c3
        have q0 := hm5.f0
        have q1 := hm5.f1
        have q2 := hm5.f2
        have q3 := hm5.f3
        have htne : gb ≠ tb := by have := HGX.out.lt; omega
        have hg7 : Gx (set4 w5 tb t1 t2 t3 t4) gb o1 i1 (.slice xa xn xc) := by
          have hne : ∀ j k : Nat, (⟨tb, j, none⟩ : Addr) ≠ ⟨gb, k, none⟩ := fun j k e => htne (congrArg Addr.block e).symm
          refine ⟨by simpa [set4] using hg5.lt, ?_, ?_, ?_, by simpa [set4] using hg5.f0, by simpa [set4] using hg5.f1, by simpa [set4] using hg5.f2⟩
          · rw [set4, set_othG (hne _ _), set_othG (hne _ _), set_othG (hne _ _), set_othG (hne _ _)]; exact hg5.c0
          · rw [set4, set_othG (hne _ _), set_othG (hne _ _), set_othG (hne _ _), set_othG (hne _ _)]; exact hg5.c1
          · rw [set4, set_othG (hne _ _), set_othG (hne _ _), set_othG (hne _ _), set_othG (hne _ _)]; exact hg5.c2
        clear hm5 htl htne
        refine wpAnyH_ready (rs := [8]) (by kernel_rfl) (by simp) ?_
        refine AllReadyH.cons rfl (fun K hK => ?_) AllReadyH.nil
        simp only [List.getElem_toArray, List.getElem_cons_succ, List.getElem_cons_zero]
        go_simp
        refine hK.out _ _ ⟨hg7.c0, hg7.c1, hg7.c2⟩ (fun hHeld => ?_)
        clear hK K hg7 hg5 r0 r1 r2 r3 q0 q1 q2 q3
        refine rgY 9 ?_ rfl (by kernel_rfl) (fun _ _ _ h => h) (.inl ⟨by rfl, fun w hSw => ?_⟩) (by assumption) ?_
        rotate_left
        · (try dsimp only at hSw); go_simp; try with_reducible rfl
        simp only [Act.put, rg1, rg2, rg3, rg4, rg5, rg6]
        obtain ⟨Z, hZ⟩ : ∃ Z, Z = (((w5.setCell ⟨tb, 0, none⟩ (.int .i64 t1)).setCell ⟨tb, 1, none⟩ (.int .i64 t2)).setCell ⟨tb, 2, none⟩ (.int .i64 t3)).setCell ⟨tb, 3, none⟩ (.int .i64 t4) := ⟨_, rfl⟩
        have hm : M4 Z tb t1 t2 t3 t4 := by rw [hZ]; exact HM5.out.set t1 t2 t3 t4
        have hbz : Below W3.heap.size W3 Z := by rw [hZ]; exact HB5.out.set4 HTB.out
        rw [← hZ]
        clear hZ
        have hm6 := H3.out.2.1.next hbz
        have hBZ : Below p w Z := H3.out.2.2.1.trans (hbz.mono (Nat.le_trans (by rw [HP.out]; exact Nat.le_refl _) H3.out.2.2.1.size))
        have m0 := hm.c0
        have m1 := hm.c1
        have m2 := hm.c2
        have m3 := hm.c3
        have c0 := hm6.c0
        have c1 := hm6.c1
        have c2 := hm6.c2
        have c3 := hm6.c3
        have c4 := hm6.c4
        have c5 := hm6.c5
        have f0 := hm6.f0
        have f1 := hm6.f1
        have f2 := hm6.f2
        have f3 := hm6.f3
        have f4 := hm6.f4
        have f5 := hm6.f5
        have HM6 := Lib.hid (And.intro hm6 hBZ)
        clear hm6 hBZ hm hbz
        refine wpAnyH_done (by kernel_rfl) ?_ _
        clear hHeld
        cases ok
        · go_wp2_with (fail)
          have hm7 := HM6.out.1.set (0) (0) (0) (0) (0) (0)
          have k0 := hm7.c0
          have k1 := hm7.c1
          have k2 := hm7.c2
          have k3 := hm7.c3
          have k4 := hm7.c4
          have k5 := hm7.c5
          unfold set6 at k0 k1 k2 k3 k4 k5
          have hbe := below_set6 (p0 := 0) (p1 := 0) (p2 := 0) (p3 := 0) (p4 := 0) (p5 := 0) HM6.out.2 (Nat.le_refl p)
          have hbe' := hbe.mono (by rw [HP.out]; exact Nat.le_refl _)
          exact bodyPost_ret (v := .tuple #[.agg #[.int .i64 0, .int .i64 0, .int .i64 0, .int .i64 0, .int .i64 0, .int .i64 0], .bool false]) (by simp [results, Tryz.results42, go_sem, k0, k1, k2, k3, k4, k5]) rfl ⟨by
            rw [HLK.out]
            show _ = Ending.returned (.tuple #[ifv (Option.getD (if lkS B R g q = true then _ else none) _), .bool (Option.isSome (if lkS B R g q = true then _ else none))])
            rw [← HLT.out.1]
            rw [if_neg (by decide)]
            rfl, hbe'⟩
        · go_wp2_with (fail)
          have hm7 := HM6.out.1.set (g) (q) (t1) (t2) (t3) (t4)
          have k0 := hm7.c0
          have k1 := hm7.c1
          have k2 := hm7.c2
          have k3 := hm7.c3
          have k4 := hm7.c4
          have k5 := hm7.c5
          unfold set6 at k0 k1 k2 k3 k4 k5
          have hbe := below_set6 (p0 := g) (p1 := q) (p2 := t1) (p3 := t2) (p4 := t3) (p5 := t4) HM6.out.2 (Nat.le_refl p)
          have hbe' := hbe.mono (by rw [HP.out]; exact Nat.le_refl _)
          exact bodyPost_ret (v := .tuple #[.agg #[.int .i64 g, .int .i64 q, .int .i64 t1, .int .i64 t2, .int .i64 t3, .int .i64 t4], .bool true]) (by simp [results, Tryz.results42, go_sem, k0, k1, k2, k3, k4, k5]) rfl ⟨by
            rw [HLK.out]
            show _ = Ending.returned (.tuple #[ifv (Option.getD (if lkS B R g q = true then _ else none) _), .bool (Option.isSome (if lkS B R g q = true then _ else none))])
            rw [← HLT.out.1]
            obtain ⟨e1, e2, e3, e4⟩ := HLT.out.2 (by first | rfl | trivial)
            rw [if_pos rfl, ← e1, ← e2, ← e3, ← e4]
            rfl, hbe'⟩
    · simp only [List.getElem_toArray, List.getElem_cons_succ, List.getElem_cons_zero]
      go_simp
      obtain ⟨tb, htb⟩ : ∃ tb, tb = Y1.heap.size := ⟨_, rfl⟩
      obtain ⟨w4a, hw4a⟩ : ∃ w4a, w4a = Y1.alloc (.cells #[.int .i64 0, .int .i64 0, .int .i64 0, .int .i64 0] 57 (0, 0)) := ⟨_, rfl⟩
      have hm4 : M4 w4a tb 0 0 0 0 := by rw [hw4a, htb]; exact M4.mk' _ _ _ _ _ _
      have hb4a : Below W3.heap.size W3 w4a := by rw [hw4a]; exact HBd.out.alloc HBd.out.size _
      have htl : W3.heap.size ≤ tb := by rw [htb]; exact HBd.out.size
      have hg4 := HGX.out.next hb4a
      rw [← hw4a, ← htb]
      clear hw4a htb
      refine hK.out _ _ ⟨hg4.c0, hg4.c1, hg4.c2⟩ (fun hHeld => ?_)
      clear hK K hg4
      refine wpAnyH_ready (rs := [1]) (by kernel_rfl) (by simp) ?_
      refine AllReadyH.cons rfl (fun K hK => ?_) AllReadyH.nil
      simp only [List.getElem_toArray, List.getElem_cons_succ, List.getElem_cons_zero]
      go_simp
      refine (HGE.out _ hb4a).mono ?_
      rintro e w4b ⟨rfl, hb4b⟩
      have hB4b := hb4a.trans (hb4b.mono hb4a.size)
      have hm4b := hm4.next hb4b
      have hg4b := HGX.out.next hB4b
      clear hb4b hm4 hb4a
      go_wp2_with (fail)
      refine hK.out _ _ ⟨hg4b.c0, hg4b.c1, hg4b.c2⟩ (fun hHeld => ?_)
      clear hK K hg4b
      refine wpAnyH_ready (rs := [3]) (by kernel_rfl) (by simp) ?_
      refine AllReadyH.cons rfl (fun K hK => ?_) AllReadyH.nil
      simp only [List.getElem_toArray, List.getElem_cons_succ, List.getElem_cons_zero]
      go_simp
      refine (HGET.out _ hB4b).mono ?_
      rintro e w5 ⟨rfl, hb5⟩
      have HB5 := Lib.hid (hB4b.trans (hb5.mono hB4b.size))
      have hg5 := HGX.out.next HB5.out
      have hm5 := hm4b.next hb5
      clear hb5 hm4b hB4b
      go_wp2_with (fail)
      refine hK.out _ _ ⟨hg5.c0, hg5.c1, hg5.c2⟩ (fun hHeld => ?_)
      clear hK K
      refine rgY 4 ?_ rfl (by kernel_rfl) (fun _ _ _ h => h) (.inl ⟨by rfl, fun w hSw => ?_⟩) (by assumption) ?_
      rotate_left
      · (try dsimp only at hSw); go_simp; try with_reducible rfl
      simp only [Act.put, rg1, rg2, rg3, rg4, rg5, rg6]
      refine rgY 5 ?_ rfl (by kernel_rfl) (fun _ _ _ h => h) (.inl ⟨by rfl, fun w hSw => ?_⟩) (by assumption) ?_
      rotate_left
      · (try dsimp only at hSw); go_simp; try with_reducible rfl
      simp only [Act.put, rg1, rg2, rg3, rg4, rg5, rg6]
      refine rgY 6 ?_ rfl (by kernel_rfl) (fun _ _ _ h => h) (.inl ⟨by rfl, fun w hSw => ?_⟩) (by assumption) ?_
      rotate_left
      · (try dsimp only at hSw); go_simp; try with_reducible rfl
      simp only [Act.put, rg1, rg2, rg3, rg4, rg5, rg6]
      have HM5 := Lib.hid hm5
      have HTB := Lib.hid htl
      have r0 := hm5.c0
      have r1 := hm5.c1
      have r2 := hm5.c2
      have r3 := hm5.c3
      have q0 := hm5.f0
      have q1 := hm5.f1
      have q2 := hm5.f2
      have q3 := hm5.f3
      have htne : gb ≠ tb := by have := HGX.out.lt; omega
      have hg7 : Gx (set4 w5 tb t1 t2 t3 t4) gb o1 i1 (.slice xa xn xc) := by
        have hne : ∀ j k : Nat, (⟨tb, j, none⟩ : Addr) ≠ ⟨gb, k, none⟩ := fun j k e => htne (congrArg Addr.block e).symm
        refine ⟨by simpa [set4] using hg5.lt, ?_, ?_, ?_, by simpa [set4] using hg5.f0, by simpa [set4] using hg5.f1, by simpa [set4] using hg5.f2⟩
        · rw [set4, set_othG (hne _ _), set_othG (hne _ _), set_othG (hne _ _), set_othG (hne _ _)]; exact hg5.c0
        · rw [set4, set_othG (hne _ _), set_othG (hne _ _), set_othG (hne _ _), set_othG (hne _ _)]; exact hg5.c1
        · rw [set4, set_othG (hne _ _), set_othG (hne _ _), set_othG (hne _ _), set_othG (hne _ _)]; exact hg5.c2
      clear hm5 htl htne
      refine wpAnyH_ready (rs := [8]) (by kernel_rfl) (by simp) ?_
      refine AllReadyH.cons rfl (fun K hK => ?_) AllReadyH.nil
      simp only [List.getElem_toArray, List.getElem_cons_succ, List.getElem_cons_zero]
      go_simp
      refine hK.out _ _ ⟨hg7.c0, hg7.c1, hg7.c2⟩ (fun hHeld => ?_)
      clear hK K hg7 hg5 r0 r1 r2 r3 q0 q1 q2 q3
      refine rgY 9 ?_ rfl (by kernel_rfl) (fun _ _ _ h => h) (.inl ⟨by rfl, fun w hSw => ?_⟩) (by assumption) ?_
      rotate_left
      · (try dsimp only at hSw); go_simp; try with_reducible rfl
      simp only [Act.put, rg1, rg2, rg3, rg4, rg5, rg6]
      obtain ⟨Z, hZ⟩ : ∃ Z, Z = (((w5.setCell ⟨tb, 0, none⟩ (.int .i64 t1)).setCell ⟨tb, 1, none⟩ (.int .i64 t2)).setCell ⟨tb, 2, none⟩ (.int .i64 t3)).setCell ⟨tb, 3, none⟩ (.int .i64 t4) := ⟨_, rfl⟩
      have hm : M4 Z tb t1 t2 t3 t4 := by rw [hZ]; exact HM5.out.set t1 t2 t3 t4
      have hbz : Below W3.heap.size W3 Z := by rw [hZ]; exact HB5.out.set4 HTB.out
      rw [← hZ]
      clear hZ
      have hm6 := H3.out.2.1.next hbz
      have hBZ : Below p w Z := H3.out.2.2.1.trans (hbz.mono (Nat.le_trans (by rw [HP.out]; exact Nat.le_refl _) H3.out.2.2.1.size))
      have m0 := hm.c0
      have m1 := hm.c1
      have m2 := hm.c2
      have m3 := hm.c3
      have c0 := hm6.c0
      have c1 := hm6.c1
      have c2 := hm6.c2
      have c3 := hm6.c3
      have c4 := hm6.c4
      have c5 := hm6.c5
      have f0 := hm6.f0
      have f1 := hm6.f1
      have f2 := hm6.f2
      have f3 := hm6.f3
      have f4 := hm6.f4
      have f5 := hm6.f5
      have HM6 := Lib.hid (And.intro hm6 hBZ)
      clear hm6 hBZ hm hbz
      refine wpAnyH_done (by kernel_rfl) ?_ _
      clear hHeld
      cases ok
      · go_wp2_with (fail)
        have hm7 := HM6.out.1.set (0) (0) (0) (0) (0) (0)
        have k0 := hm7.c0
        have k1 := hm7.c1
        have k2 := hm7.c2
        have k3 := hm7.c3
        have k4 := hm7.c4
        have k5 := hm7.c5
        unfold set6 at k0 k1 k2 k3 k4 k5
        have hbe := below_set6 (p0 := 0) (p1 := 0) (p2 := 0) (p3 := 0) (p4 := 0) (p5 := 0) HM6.out.2 (Nat.le_refl p)
        have hbe' := hbe.mono (by rw [HP.out]; exact Nat.le_refl _)
        exact bodyPost_ret (v := .tuple #[.agg #[.int .i64 0, .int .i64 0, .int .i64 0, .int .i64 0, .int .i64 0, .int .i64 0], .bool false]) (by simp [results, Tryz.results42, go_sem, k0, k1, k2, k3, k4, k5]) rfl ⟨by
          rw [HLK.out]
          show _ = Ending.returned (.tuple #[ifv (Option.getD (if lkS B R g q = true then _ else none) _), .bool (Option.isSome (if lkS B R g q = true then _ else none))])
          rw [← HLT.out.1]
          rw [if_neg (by decide)]
          rfl, hbe'⟩
      · go_wp2_with (fail)
        have hm7 := HM6.out.1.set (g) (q) (t1) (t2) (t3) (t4)
        have k0 := hm7.c0
        have k1 := hm7.c1
        have k2 := hm7.c2
        have k3 := hm7.c3
        have k4 := hm7.c4
        have k5 := hm7.c5
        unfold set6 at k0 k1 k2 k3 k4 k5
        have hbe := below_set6 (p0 := g) (p1 := q) (p2 := t1) (p3 := t2) (p4 := t3) (p5 := t4) HM6.out.2 (Nat.le_refl p)
        have hbe' := hbe.mono (by rw [HP.out]; exact Nat.le_refl _)
        exact bodyPost_ret (v := .tuple #[.agg #[.int .i64 g, .int .i64 q, .int .i64 t1, .int .i64 t2, .int .i64 t3, .int .i64 t4], .bool true]) (by simp [results, Tryz.results42, go_sem, k0, k1, k2, k3, k4, k5]) rfl ⟨by
          rw [HLK.out]
          show _ = Ending.returned (.tuple #[ifv (Option.getD (if lkS B R g q = true then _ else none) _), .bool (Option.isSome (if lkS B R g q = true then _ else none))])
          rw [← HLT.out.1]
          obtain ⟨e1, e2, e3, e4⟩ := HLT.out.2 (by first | rfl | trivial)
          rw [if_pos rfl, ← e1, ← e2, ← e3, ← e4]
          rfl, hbe'⟩
end
end Go.Proofs.YtegmeoghonolcaaGreat
