/-
  The reference's sectors of a segment, by contract.
-/
import Derived.Test.YtciddoeeiamndaaGreatQj
import Derived.Test.YtciddoeeiamndaaGreatRke
import Derived.Test.YtciddoeeiamndaaGreatSe
namespace Go.Proofs.YtciddoeeiamndaaGreat
open Go.RowKit Go.Maps
set_option linter.unusedVariables false

/-- 'append(rows, two...)'. -/
theorem wpList_apRt {w : World} {ops : Array Oper} {rest : List Oper} {o : Oper} {a : Act} {Q : Exit → Act → World → Prop} (hgd : o.guard = none) (s x : Operand)
    (ho : o.op = .call { callee := .builtin .append, args := #[s, x], argTypes := #[31, 31] })
    (B : Nat) (v : Value) (n : Nat) (f : Nat → Pc) (hs : a.eval s = v) (hown : OwnR w B v n f) (g cx : Nat) (hx : a.eval x = .slice (some ⟨g, 0, none⟩) 2 cx)
    (p : Nat → Pc) (hg : ∀ i, i < 2 → w.cell? ⟨g, i, none⟩ = some (.slice (p i).a (p i).n (p i).c)) (hp : ∀ i, i < 2 → Pin w (p i).a (p i).n (p i).c (p i).zs) (hap : ∀ i, i < 2 → (p i).n = 0 ∨ ∀ y, (p i).a = some y → some y.block ≠ v.ownBlock)
    (hn : n + 2 ≤ 1000000000000) (hB : B ≤ w.heap.size) (w0 : World) (hb : Below B w0 w)
    (h : ∀ v' w', OwnR w' B v' (n + 2) (snoc (snoc f n (p 0)) (n + 1) (p 1)) → Below B w0 w' → w.grownBy w' v.ownBlock → (v'.ownBlock = v.ownBlock ∨ v'.ownBlock = some w.heap.size) → wpList Tryz.prog ops Q rest (a.put o.dst v') w') : wpList Tryz.prog ops Q (o :: rest) a w := by
  obtain ⟨i0, hi, hz0, hz1, hz2⟩ := info_parts info24
  refine wpList_append_lies (P := Tryz.prog) w hgd s x 31 ho B 49 i0 (.slice none 0 0) 1 24 Tryz.underlying31 hi hz0 hz1 hz2 rfl (by omega) v n _ hs hown.row ⟨g, 0, none⟩ 2 cx [.slice (p 0).a (p 0).n (p 0).c, .slice (p 1).a (p 1).n (p 1).c] hx rfl ?_ ?_ (by omega) (by unfold maxLen; omega) (by omega) hB _ rfl ?_
  · intro j u hj
    match j with
    | 0 => simp at hj; subst hj; exact hg 0 (by omega)
    | 1 => simp at hj; subst hj; exact hg 1 (by omega)
    | j + 2 => simp at hj
  · intro u hu
    rcases List.mem_cons.1 hu with rfl | hu
    · rfl
    · rw [List.mem_singleton.1 hu]
      rfl
  · intro g' cap w' hown' hgrow hat hlt
    have hE : (Value.slice (some ⟨g', 0, none⟩) (n + 2) cap).ownBlock = some g' := rfl
    have hap' : ∀ {pa : Option Addr} {pn pc : Nat} {pz : List Int}, Pin w pa pn pc pz → (pn = 0 ∨ ∀ y, pa = some y → some y.block ≠ v.ownBlock) → (pn = 0 ∨ ∀ y, pa = some y → some y.block ≠ some g') := by
      intro pa pn pc pz hp h
      rcases h with h0 | hne
      · exact .inl h0
      rcases hp.bys.place with h0 | ⟨b, off, e, hb', _⟩
      · exact .inl h0
      right
      intro y hy e2
      rcases hat with h1 | h1
      · exact hne y hy (by rw [h1]; exact e2)
      · rw [e] at hy
        cases hy
        have : b = g' := by simpa using e2
        omega
    have hval : vals (snoc (snoc f n (p 0)) (n + 1) (p 1)) (n + 2) = vals f n ++ [.slice (p 0).a (p 0).n (p 0).c, .slice (p 1).a (p 1).n (p 1).c] := by
      rw [show n + 2 = n + 1 + 1 by omega, vals_snoc, vals_snoc, List.append_assoc]
      rfl
    refine h _ w' ⟨by rw [hval]; exact hown', fun i hi => ?_, fun i hi => ?_⟩ (hb.grown hgrow hB fun k hk => (hown.row.lt k hk).1) hgrow (by
      rw [hE]
      rcases hat with h1 | h1
      · exact .inl h1.symm
      · exact .inr (by rw [h1]))
    · rcases (by omega : i < n ∨ i = n ∨ i = n + 1) with h1 | h1 | h1
      · rw [snoc_old (by omega), snoc_old h1]; exact (hown.each i h1).grown hgrow (hown.apart i h1)
      · subst h1
        rw [snoc_old (by omega), snoc_new]; exact (hp 0 (by omega)).grown hgrow (hap 0 (by omega))
      · subst h1
        rw [snoc_new]; exact (hp 1 (by omega)).grown hgrow (hap 1 (by omega))
    · rw [hE]
      rcases (by omega : i < n ∨ i = n ∨ i = n + 1) with h1 | h1 | h1
      · rw [snoc_old (by omega), snoc_old h1]; exact hap' (hown.each i h1) (hown.apart i h1)
      · subst h1
        rw [snoc_old (by omega), snoc_new]; exact hap' (hp 0 (by omega)) (hap 0 (by omega))
      · subst h1
        rw [snoc_new]; exact hap' (hp 1 (by omega)) (hap 1 (by omega))

/-- No number of the blocks is too great. -/
def BlBig (n : Nat) (f : Nat → BlP) : Prop := ∀ j, j < n → (f j).o ≤ 9223372036854775807 ∧ (f j).i ≤ 9223372036854775807
def SecPost (w : World) (q : Int) (f : Nat → BlP) (n : Nat) (e : Ending) (w' : World) : Prop :=
  if enO q f n 6 then ∃ gS c F, e = .returned (.tuple #[.slice (some ⟨gS, 0, none⟩) 9 c, .bool true]) ∧ Rws w' (some ⟨gS, 0, none⟩) 9 F ∧ w.heap.size ≤ gS ∧ (∀ a j, a < 3 → j < 3 → (F (3 * a + j)).zs = rowE q f n 2 a j) ∧ (∀ i, i < 9 → ∀ x, (F i).a = some x → w.heap.size ≤ x.block) ∧ 9 ≤ c ∧ c ≤ 9223372036854775807 ∧ Below w.heap.size w w'
  else e = .returned (.tuple #[.slice none 0 0, .bool false]) ∧ Below w.heap.size w w'
/-- The rows so far. -/
structure SeI (w : World) (B : Nat) (q : Int) (f : Nat → BlP) (n a : Nat) (v : Value) (F : Nat → Pc) (X : World) : Prop where
  own : OwnR X B v (3 * a) F
  zs : ∀ a' j, a' < a → j < 3 → (F (3 * a' + j)).zs = rowE q f n 2 a' j
  fr : ∀ i, i < 3 * a → ∀ x, (F i).a = some x → w.heap.size ≤ x.block
  en : enO q f n (2 * a) = true
  bel : Below w.heap.size w X
/-- The row's blocks so far. -/
structure SeJ (wl : World) (q : Int) (f : Nat → BlP) (n a c : Nat) (v : Value) (G : Nat → Pc) (X : World) : Prop where
  own : OwnR X wl.heap.size v c G
  zs : ∀ j, j < c → (G j).zs = enS q f n (2 * a + j)
  fr : ∀ j, j < c → ∀ x, (G j).a = some x → wl.heap.size ≤ x.block
  en : enO q f n (2 * a + c) = true
  bel : Below wl.heap.size wl X
set_option maxRecDepth 100000 in
set_option maxHeartbeats 8000000 in
theorem sectors_ref (q : Int) (ab : Option Addr) (n cb : Nat) (f : Nat → BlP) (w : World) (hbl : Bls w ab n f) (hbig : BlBig n f) (hq : q ≤ 9223372036854775807) (hnb : n ≤ 9223372036854775807) :
    Calls Tryz.prog 78 #[gv 3 3 12, .int .i64 q, .slice ab n cb] w (SecPost w q f n) := by
  have HBL := Lib.hid hbl
  have HBIG := Lib.hid hbig
  have HQ := Lib.hid hq
  obtain ⟨W1, hW1⟩ : ∃ W1, W1 = w.alloc (.cells #[.int .i64 3, .int .i64 3, .int .i64 12] 41 (0, 0)) := ⟨_, rfl⟩
  obtain ⟨p, hp⟩ : ∃ p, p = w.heap.size := ⟨_, rfl⟩
  have hx1 : Bx W1 p 3 3 12 := by rw [hW1, hp]; exact Bx.mk' w _ _ _ _
  have hB1 : Below w.heap.size w W1 := by rw [hW1]; exact (Below.refl _ _).alloc (Nat.le_refl _) _
  have HX1 := Lib.hid hx1
  have HB1 := Lib.hid hB1
  have HNO : Hid (∀ k, k < 6 → enO q f n (k + 1) = false → enO q f n 6 = false) := fun k hk h => enO_no (k := k + 1) hk h
  clear hbl hbig hx1 hB1 hq
  go_enter Tryz.func78, Tryz.ntmps78
  go_wp2_with (fail)
  rw [← hW1, ← hp]
  obtain ⟨W2, hW2⟩ : ∃ W2, W2 = W1.alloc (.cells #[] 49) := ⟨_, rfl⟩
  have hs1 : W1.heap.size = p + 1 := by rw [hW1, hp]; simp
  have ho2 : OwnR W2 W1.heap.size (.slice (some ⟨p + 1, 0, none⟩) 0 0) 0 (fun _ => default) := by rw [← hs1, hW2]; exact ownR_none _ _ (Nat.le_refl _) _
  have hb2 : Below W1.heap.size W1 W2 := by rw [hW2]; exact (Below.refl _ _).alloc (Nat.le_refl _) _
  have HI0 : Hid (SeI W1 W1.heap.size q f n 0 (.slice (some ⟨p + 1, 0, none⟩) 0 0) (fun _ => default) W2) := ⟨ho2, fun _ _ h => absurd h (Nat.not_lt_zero _), fun _ h => absurd h (Nat.not_lt_zero _), rfl, hb2⟩
  rw [← hW2]
  clear hW1 hW2 ho2 hb2 hp hs1
  go_loopw [8, 9, 10, 11, 12, 13, 14, 15, 16, 17] (fun v i _p _q _r _s _t _x _y _z wr => ∃ (a : Nat) (F : Nat → Pc), a ≤ 3 ∧ i = .int .i64 a ∧ SeI W1 W1.heap.size q f n a v F wr) (fun _ i _ _ _ _ _ _ _ _ _ => 3 - (RowKit.intOf i).toNat)
  case atStart => exact ⟨0, _, by omega, rfl, HI0.out⟩
  case round =>
    obtain ⟨a, F, ha, rfl, hI⟩ := hrel
    have hx := HX1.out.next hI.bel
    have x0 := hx.c0
    have x1 := hx.c1
    have x2 := hx.c2
    obtain ⟨ra, rc, rfl, _, _, _, _⟩ := hI.own.rws
    have HI := Lib.hid hI
    clear hx hI HI0
    by_cases hlt : a < 3
    · obtain ⟨wl, hwl⟩ : ∃ wl, wl = wr := ⟨_, rfl⟩
      have hJ0 : SeJ wl q f n a 0 (.slice (some ⟨wl.heap.size, 0, none⟩) 0 0) (fun _ => default) (wl.alloc (.cells #[] 49)) := ⟨ownR_none _ _ (Nat.le_refl _) _, fun _ h => absurd h (Nat.not_lt_zero _), fun _ h => absurd h (Nat.not_lt_zero _), HI.out.en, (Below.refl _ _).alloc (Nat.le_refl _) _⟩
      have HJ0 := Lib.hid hJ0
      subst hwl
      have hlta : decide ((a : Int) < 3) = true := decide_eq_true (by omega)
      clear hJ0
      go_wp2_with (fail)
      go_loopw [10, 11, 12, 13, 14, 15] (fun u v _p _q _r _s wr => ∃ (c : Nat) (G : Nat → Pc), c ≤ 2 ∧ v = .int .i64 c ∧ SeJ wl q f n a c u G wr) (fun _ v _ _ _ _ _ => 2 - (RowKit.intOf v).toNat)
      case atStart => exact ⟨0, _, by omega, rfl, HJ0.out⟩
      case round =>
        obtain ⟨c, G, hc, rfl, hJ⟩ := hrel
        obtain ⟨la, lc, rfl, _, _, _, _⟩ := hJ.own.rws
        have hbw := HI.out.bel.trans (hJ.bel.mono HI.out.bel.size)
        have hx := HX1.out.next hbw
        have x0 := hx.c0
        have x1 := hx.c1
        have x2 := hx.c2
        have hbl := HBL.out.next (HB1.out.trans (hbw.mono HB1.out.size))
        have HJ := Lib.hid hJ
        have HBW := Lib.hid hbw
        clear hx hJ HJ0 hbw
        by_cases hc2 : c < 2
        · obtain ⟨A2, hA2⟩ : ∃ A2 : Nat, A2 = 2 * a := ⟨_, rfl⟩
          obtain ⟨k, hk⟩ : ∃ k : Nat, k = 2 * a + c := ⟨_, rfl⟩
          have eA : IntKind.i64.wrap ((a : Int) * 2) = (A2 : Int) := by rw [IntWalk.i64_in _ (by omega)]; omega
          have eK : IntKind.i64.wrap ((A2 : Int) + (c : Int)) = (k : Int) := by rw [IntWalk.i64_in _ (by omega)]; omega
          have HK := Lib.hid hk
          have hk6 : k < 6 := by omega
          have HENK : Hid (enO q f n (k + 1) = encO q (blkAt f n k).o (blkAt f n k).i (blkAt f n k).p.zs) := by
            show _ = _
            rw [enO, hk, HJ.out.en, Bool.true_and]
          clear hA2 hk
          by_cases hkn : k < n
          · obtain ⟨bb, off, rfl, hbb, hcl⟩ := hbl.place.resolve_left (by omega)
            obtain ⟨k0, k1, k2⟩ := hcl k hkn
            have hpin := hbl.each k hkn
            obtain ⟨big0, big1⟩ := HBIG.out k hkn
            have eB : blkAt f n k = f k := if_pos hkn
            rw [eB] at HENK
            have HEB := Lib.hid eB
            have HZS : Hid (encL q (f k).o (f k).i (f k).p.zs = enS q f n (2 * a + c)) := by show _ = _; rw [enS, ← HK.out, HEB.out]
            have HPI := Lib.hid hpin
            have hkI : (k : Int) < (n : Int) := by omega
            have hk0I : (0 : Int) ≤ (k : Int) := by omega
            clear hcl hpin hbl eB
            go_wp2_with (fail)
            refine (refEnc_any q (f k).o (f k).i (f k).p.a (f k).p.n (f k).p.c (f k).p.zs _ (HPI.out.alloc _) HQ.out big0 big1).mono ?_
            rintro e w4 ⟨a4, n4, c4, rfl, hp4, hlo4, hb4⟩
            have hb4' : Below wr.heap.size wr w4 := ((Below.refl _ _).alloc (Nat.le_refl _) _).trans (hb4.mono (by simp))
            have HB4 := Lib.hid hb4'
            have HLO4 : Hid (∀ x, a4 = some x → wr.heap.size ≤ x.block) := fun x hx => by have := hlo4 x hx; simp at this; omega
            obtain ⟨eo, heo⟩ : ∃ e, e = encO q (f k).o (f k).i (f k).p.zs := ⟨_, rfl⟩
            rw [← heo] at HENK ⊢
            obtain ⟨zs, hzs⟩ : ∃ z, z = encL q (f k).o (f k).i (f k).p.zs := ⟨_, rfl⟩
            rw [← hzs] at hp4 HZS
            clear hlo4 hb4 hb4' heo hzs big0 big1 HPI
            cases eo with
            | false =>
              have HN := Lib.hid (HNO.out k hk6 HENK.out)
              have HBX := Lib.hid (HB1.out.trans ((HBW.out.trans (HB4.out.mono HBW.out.size)).mono HB1.out.size))
              clear hp4
              go_wp2_with (fail)
              go_ret2
              unfold SecPost
              rw [HN.out, if_neg (by simp)]
              exact ⟨rfl, HBX.out⟩
            | true =>
              have hO4 := HJ.out.own.next HB4.out
              have hap : Hid (n4 = 0 ∨ ∀ y, a4 = some y → some y.block ≠ (Value.slice la c lc).ownBlock) := .inr fun y hy e2 => by
                have h5 := HLO4.out y hy
                have h6 := (HJ.out.own.row.lt _ e2.symm).2
                omega
              have hB4 := HJ.out.bel.trans (HB4.out.mono HJ.out.bel.size)
              have HO6 : Hid (OwnR (w4.alloc (.cells #[.slice a4 n4 c4] 49 (0, 0))) wl.heap.size (.slice la c lc) c G) := hO4.next ((Below.refl _ _).alloc (Nat.le_refl _) _)
              have HP6 : Hid (Pin (w4.alloc (.cells #[.slice a4 n4 c4] 49 (0, 0))) a4 n4 c4 zs) := hp4.alloc _
              have HB6 : Hid (Below wl.heap.size wl (w4.alloc (.cells #[.slice a4 n4 c4] 49 (0, 0)))) := hB4.alloc hB4.size _
              have HC6 : Hid ((w4.alloc (.cells #[.slice a4 n4 c4] 49 (0, 0))).cell? ⟨w4.heap.size, 0, none⟩ = some (.slice a4 n4 c4)) := by show _ = _; simp
              have hcn : Hid (c + 1 ≤ 1000000000000) := by show _ ≤ _; omega
              clear hp4 hO4 hB4
              go_wp2_with (at_builtin; go_must (refine wpList_apR rfl (.tmp 63) (.tmp 65) rfl wl.heap.size _ c G rfl HO6.out w4.heap.size rfl a4 n4 c4 zs HC6.out HP6.out hap.out hcn.out HB6.out.size wl HB6.out ?_); intro v7 w7 hO7 hb7 hgr7 hat7)
              go_roundw
              case rel =>
                refine ⟨c + 1, _, by omega, by go_num, ⟨hO7, fun j hj => ?_, fun j hj x hx => ?_, by have := HENK.out; rw [HK.out] at this; exact this, hb7⟩⟩
                · rcases Nat.lt_or_ge j c with h1 | h1
                  · rw [snoc_old h1]; exact HJ.out.zs j h1
                  · obtain rfl : j = c := by omega
                    rw [snoc_new]; exact HZS.out
                · rcases Nat.lt_or_ge j c with h1 | h1
                  · rw [snoc_old h1] at hx; exact HJ.out.fr j h1 x hx
                  · obtain rfl : j = c := by omega
                    rw [snoc_new] at hx
                    exact Nat.le_trans HJ.out.bel.size (HLO4.out x hx)
              case measure => simp [RowKit.intOf]; omega
          · have eB : blkAt f n k = default := if_neg hkn
            have HZS : Hid (encL q 0 0 [] = enS q f n (2 * a + c)) := by show _ = _; rw [enS, ← HK.out, eB]; rfl
            rw [eB] at HENK
            change Hid (enO q f n (k + 1) = encO q 0 0 []) at HENK
            have HPI := Lib.hid (Pin.zero wr)
            have big0 : (0 : Int) ≤ 9223372036854775807 := by omega
            have big1 : (0 : Int) ≤ 9223372036854775807 := by omega
            have hkI : decide ((k : Int) < (n : Int)) = false := decide_eq_false (by omega)
            have hkN : decide (k < n) = false := decide_eq_false hkn
            clear hbl eB hkn
            go_wp2_with (fail)
            refine (refEnc_any q 0 0 none 0 0 [] _ (HPI.out.alloc _) HQ.out big0 big1).mono ?_
            rintro e w4 ⟨a4, n4, c4, rfl, hp4, hlo4, hb4⟩
            have hb4' : Below wr.heap.size wr w4 := ((Below.refl _ _).alloc (Nat.le_refl _) _).trans (hb4.mono (by simp))
            have HB4 := Lib.hid hb4'
            have HLO4 : Hid (∀ x, a4 = some x → wr.heap.size ≤ x.block) := fun x hx => by have := hlo4 x hx; simp at this; omega
            obtain ⟨eo, heo⟩ : ∃ e, e = encO q 0 0 [] := ⟨_, rfl⟩
            rw [← heo] at HENK ⊢
            obtain ⟨zs, hzs⟩ : ∃ z, z = encL q 0 0 [] := ⟨_, rfl⟩
            rw [← hzs] at hp4 HZS
            clear hlo4 hb4 hb4' heo hzs big0 big1 HPI
            cases eo with
            | false =>
              have HN := Lib.hid (HNO.out k hk6 HENK.out)
              have HBX := Lib.hid (HB1.out.trans ((HBW.out.trans (HB4.out.mono HBW.out.size)).mono HB1.out.size))
              clear hp4
              go_wp2_with (fail)
              go_ret2
              unfold SecPost
              rw [HN.out, if_neg (by simp)]
              exact ⟨rfl, HBX.out⟩
            | true =>
              have hO4 := HJ.out.own.next HB4.out
              have hap : Hid (n4 = 0 ∨ ∀ y, a4 = some y → some y.block ≠ (Value.slice la c lc).ownBlock) := .inr fun y hy e2 => by
                have h5 := HLO4.out y hy
                have h6 := (HJ.out.own.row.lt _ e2.symm).2
                omega
              have hB4 := HJ.out.bel.trans (HB4.out.mono HJ.out.bel.size)
              have HO6 : Hid (OwnR (w4.alloc (.cells #[.slice a4 n4 c4] 49 (0, 0))) wl.heap.size (.slice la c lc) c G) := hO4.next ((Below.refl _ _).alloc (Nat.le_refl _) _)
              have HP6 : Hid (Pin (w4.alloc (.cells #[.slice a4 n4 c4] 49 (0, 0))) a4 n4 c4 zs) := hp4.alloc _
              have HB6 : Hid (Below wl.heap.size wl (w4.alloc (.cells #[.slice a4 n4 c4] 49 (0, 0)))) := hB4.alloc hB4.size _
              have HC6 : Hid ((w4.alloc (.cells #[.slice a4 n4 c4] 49 (0, 0))).cell? ⟨w4.heap.size, 0, none⟩ = some (.slice a4 n4 c4)) := by show _ = _; simp
              have hcn : Hid (c + 1 ≤ 1000000000000) := by show _ ≤ _; omega
              clear hp4 hO4 hB4
              go_wp2_with (at_builtin; go_must (refine wpList_apR rfl (.tmp 63) (.tmp 65) rfl wl.heap.size _ c G rfl HO6.out w4.heap.size rfl a4 n4 c4 zs HC6.out HP6.out hap.out hcn.out HB6.out.size wl HB6.out ?_); intro v7 w7 hO7 hb7 hgr7 hat7)
              go_roundw
              case rel =>
                refine ⟨c + 1, _, by omega, by go_num, ⟨hO7, fun j hj => ?_, fun j hj x hx => ?_, by have := HENK.out; rw [HK.out] at this; exact this, hb7⟩⟩
                · rcases Nat.lt_or_ge j c with h1 | h1
                  · rw [snoc_old h1]; exact HJ.out.zs j h1
                  · obtain rfl : j = c := by omega
                    rw [snoc_new]; exact HZS.out
                · rcases Nat.lt_or_ge j c with h1 | h1
                  · rw [snoc_old h1] at hx; exact HJ.out.fr j h1 x hx
                  · obtain rfl : j = c := by omega
                    rw [snoc_new] at hx
                    exact Nat.le_trans HJ.out.bel.size (HLO4.out x hx)
              case measure => simp [RowKit.intOf]; omega
        · obtain rfl : c = 2 := by omega
          obtain ⟨gl, lc', he, hrb, hlc, hlm, hgl⟩ := HJ.out.own.rb (by omega)
          cases he
          have hpr := refPar_any (some ⟨gl, 0, none⟩) 2 lc G wr hrb.rws (by omega)
          have hHO := HI.out.own
          have HRB := Lib.hid hrb
          have HPE : Hid (parL G 2 = rowE q f n 2 a 2) := by
            show _ = _
            unfold rowE rowF
            rw [if_neg (by omega)]
            exact parL_congr fun j hj => (HJ.out.zs j hj).trans (by show _ = enS q f n (a * 2 + j); rw [Nat.mul_comm])
          clear hc2 hrb hbl
          go_wp2_with (fail)
          refine hpr.mono ?_
          rintro e w5 ⟨a5, n5, c5, rfl, hp5, hlo5, hb5⟩
          have HB5 := Lib.hid (HJ.out.bel.trans (hb5.mono HJ.out.bel.size))
          have HO5 := Lib.hid (hHO.below (Nat.le_refl _) HB5.out)
          have HRB5 := Lib.hid (HRB.out.next hb5)
          have HP5 := Lib.hid hp5
          have HLO5 := Lib.hid hlo5
          have HB15 := Lib.hid (HI.out.bel.trans (HB5.out.mono HI.out.bel.size))
          obtain ⟨ps, hps⟩ : ∃ z, z = parL G 2 := ⟨_, rfl⟩
          rw [← hps] at HPE HP5
          obtain ⟨po, hpo⟩ : ∃ z, z = oneSeq G 2 := ⟨_, rfl⟩
          rw [← hpo]
          have hap1 : Hid (∀ i, i < 2 → (G i).n = 0 ∨ ∀ y, (G i).a = some y → some y.block ≠ (Value.slice ra (3 * a) rc).ownBlock) := fun i hi => .inr fun y hy e2 => by
            have h5 := HJ.out.fr i hi y hy
            have h6 := (hHO.row.lt _ e2.symm).2
            omega
          have hap2 : Hid (n5 = 0 ∨ ∀ y, a5 = some y → some y.block ≠ (Value.slice ra (3 * a) rc).ownBlock) := .inr fun y hy e2 => by
            have h5 := hlo5 y hy
            have h6 := (hHO.row.lt _ e2.symm).2
            have h7 := HJ.out.bel.size
            omega
          have hcn : Hid (3 * a + 2 ≤ 1000000000000) := by show _ ≤ _; omega
          have hcn3 : Hid (3 * a + 2 + 1 ≤ 1000000000000) := by show _ ≤ _; omega
          have HGO : Hid (∀ y, (Value.slice ra (3 * a) rc).ownBlock = some y → y < wl.heap.size) := fun y e => (hHO.row.lt _ e).2
          clear hpr hp5 hlo5 hb5 hHO hps hpo x0 x1 x2
          go_wp2_with (at_builtin; first
            | (refine wpList_apRt rfl (.tmp 72) (.tmp 73) rfl W1.heap.size _ (3 * a) F rfl HO5.out gl lc rfl G HRB5.out.cell HRB5.out.each hap1.out hcn.out HB15.out.size W1 HB15.out ?_
               intro v7 w7 hO7 hb7 hgr7 hat7
               have hp7 := HP5.out.grown hgr7 hap2.out
               have hap3 : n5 = 0 ∨ ∀ y, a5 = some y → some y.block ≠ v7.ownBlock := by
                 by_cases hn5 : n5 = 0
                 · exact .inl hn5
                 · refine .inr fun y hy e2 => ?_
                   rcases hat7 with h | h
                   · exact (hap2.out.resolve_left hn5) y hy (e2.trans h)
                   · rw [h] at e2
                     obtain ⟨b', off', e', hlt', _⟩ := HP5.out.bys.place.resolve_left hn5
                     rw [e'] at hy
                     cases hy
                     have : b' = w5.heap.size := by simpa using e2
                     omega
               have HO8 : Hid (OwnR (w7.alloc (.cells #[.slice a5 n5 c5] 49 (0, 0))) W1.heap.size v7 (3 * a + 2) (snoc (snoc F (3 * a) (G 0)) (3 * a + 1) (G 1))) := hO7.next ((Below.refl _ _).alloc (Nat.le_refl _) _)
               have HP8 : Hid (Pin (w7.alloc (.cells #[.slice a5 n5 c5] 49 (0, 0))) a5 n5 c5 ps) := hp7.alloc _
               have HB8 : Hid (Below W1.heap.size W1 (w7.alloc (.cells #[.slice a5 n5 c5] 49 (0, 0)))) := hb7.alloc hb7.size _
               have HC8 : Hid ((w7.alloc (.cells #[.slice a5 n5 c5] 49 (0, 0))).cell? ⟨w7.heap.size, 0, none⟩ = some (.slice a5 n5 c5)) := by show _ = _; simp
               have HA8 := Lib.hid hap3
               clear hO7 hb7 hgr7 hat7 hp7 hap3)
            | (refine wpList_apR rfl (.tmp 75) (.tmp 77) rfl W1.heap.size _ (3 * a + 2) _ rfl HO8.out w7.heap.size rfl a5 n5 c5 ps HC8.out HP8.out HA8.out hcn3.out HB8.out.size W1 HB8.out ?_
               intro v9 w9 hO9 hb9 hgr9 hat9))
          go_roundw
          case rel =>
            refine ⟨a + 1, _, by omega, by go_num, ⟨by rw [show 3 * (a + 1) = 3 * a + 2 + 1 by omega]; exact hO9, fun a' j ha' hj => ?_, fun i hi x hx => ?_, by have := HJ.out.en; rw [show 2 * (a + 1) = 2 * a + 2 by omega]; exact this, hb9⟩⟩
            · rcases Nat.lt_or_ge a' a with h1 | h1
              · rw [snoc_old (by omega), snoc_old (by omega), snoc_old (by omega)]; exact HI.out.zs a' j h1 hj
              · obtain rfl : a' = a := by omega
                have hz := HJ.out.zs
                have hr : ∀ j, j < 2 → enS q f n (2 * a' + j) = rowE q f n 2 a' j := fun j hj => by
                  unfold rowE rowF
                  rw [if_pos hj, Nat.mul_comm]
                rcases (by omega : j = 0 ∨ j = 1 ∨ j = 2) with rfl | rfl | rfl
                · rw [snoc_old (by omega), snoc_old (by omega), show 3 * a' + 0 = 3 * a' by omega, snoc_new, hz 0 (by omega)]; exact hr 0 (by omega)
                · rw [snoc_old (by omega), snoc_new, hz 1 (by omega)]; exact hr 1 (by omega)
                · rw [snoc_new]; exact HPE.out
            · rcases (by omega : i < 3 * a ∨ i = 3 * a ∨ i = 3 * a + 1 ∨ i = 3 * a + 2) with h1 | h1 | h1 | h1
              · rw [snoc_old (by omega), snoc_old (by omega), snoc_old (by omega)] at hx; exact HI.out.fr i h1 x hx
              · subst h1
                rw [snoc_old (by omega), snoc_old (by omega), snoc_new] at hx
                exact Nat.le_trans HI.out.bel.size (HJ.out.fr 0 (by omega) x hx)
              · subst h1
                rw [snoc_old (by omega), snoc_new] at hx
                exact Nat.le_trans HI.out.bel.size (HJ.out.fr 1 (by omega) x hx)
              · subst h1
                rw [snoc_new] at hx
                exact Nat.le_trans (Nat.le_trans HI.out.bel.size HJ.out.bel.size) (HLO5.out x hx)
          case measure => simp [RowKit.intOf]; omega
    · obtain rfl : a = 3 := by omega
      obtain ⟨gS, cS, he, hrb, hlc, hlm, hgl⟩ := HI.out.own.rb (by omega)
      cases he
      have HRB := Lib.hid hrb.rws
      clear hlt hrb
      go_wp2_with (fail)
      go_ret2
      unfold SecPost
      rw [if_pos HI.out.en]
      exact ⟨gS, rc, F, rfl, HRB.out, Nat.le_trans HB1.out.size hgl, fun a j ha hj => HI.out.zs a j ha hj, fun i hi x hx => Nat.le_trans HB1.out.size (HI.out.fr i hi x hx), hlc, hlm, HB1.out.trans (HI.out.bel.mono HB1.out.size)⟩

end Go.Proofs.YtciddoeeiamndaaGreat

/-
  The reference's Write, by contract.
-/
namespace Go.Proofs.YtciddoeeiamndaaGreat
open Go.RowKit Go.Maps
set_option linter.unusedVariables false

/-- A segment written sector by sector, till the power goes. -/
def wrN (B : Bn) (g q : Int) (fb : Nat → BlP) (nb : Nat) (R : Rk) : Nat → Bool × Rk
  | 0 => (false, R)
  | i + 1 => if (wrN B g q fb nb R i).1 then wrN B g q fb nb R i else (decide (bwE B (wrN B g q fb nb R i).2 (qD g i) (qS g i) (rowE q fb nb 2 (i / 3) (i % 3)) = 12), bw B (wrN B g q fb nb R i).2 (qD g i) (qS g i) (rowE q fb nb 2 (i / 3) (i % 3)))
section
variable {B : Bn} {g q : Int} {fb : Nat → BlP} {nb : Nat} {R : Rk}
theorem wrN_end {i n : Nat} (h : i ≤ n) (hc : (wrN B g q fb nb R i).1 = true) : wrN B g q fb nb R n = wrN B g q fb nb R i := by
  induction n with
  | zero => obtain rfl : i = 0 := by omega
            rfl
  | succ n ih =>
    rcases Nat.lt_or_ge n i with h1 | h1
    · obtain rfl : i = n + 1 := by omega
      rfl
    · have := ih h1
      rw [wrN, this, if_pos hc]
theorem wrN_row (hS : Sml B) (a : Nat) : wrN B g q fb nb R (3 * a) = wrG B 3 g q fb nb R a := by
  induction a with
  | zero => rfl
  | succ a ih =>
    rw [wrG]
    by_cases h : (wrG B 3 g q fb nb R a).1 = true
    · rw [if_pos h, ← ih]
      exact wrN_end (by omega) (by rw [ih]; exact h)
    · rw [if_neg h]
      have h' : (wrG B 3 g q fb nb R a).1 = false := by simpa using h
      have key : ∀ j, j ≤ 3 → wrN B g q fb nb R (3 * a + j) = wrC B (rowD 3 (g * B.r + a)) (5 + (g * B.r + a)) (rowE q fb nb (3 - 1) a) (wrG B 3 g q fb nb R a).2 j := by
        intro j
        induction j with
        | zero => intro _; rw [Nat.add_zero, ih, wrC]; exact Prod.ext h' rfl
        | succ j ihj =>
          intro hj
          have e := ihj (by omega)
          rw [show 3 * a + (j + 1) = 3 * a + j + 1 by omega, wrN, wrC, e, qD_at g (by omega), qS_at g (by omega), hS.r, show (3 * a + j) / 3 = a by omega, show (3 * a + j) % 3 = j by omega]
      have := key 3 (by omega)
      rw [show 3 * (a + 1) = 3 * a + 3 by omega]
      exact this
end
/-- Between two rounds of Write. -/
structure WzI (w : World) (M : Nat → Prop) (L : RLay) (R : Rk) (B : Bn) (b gS : Nat) (g q : Int) (fb : Nat → BlP) (nb i : Nat) (Fp : Nat → Pc) (F1 : Rf) (X : World) : Prop where
  st : (wrN B g q fb nb R i).1 = false
  rf : RefAt X M L F1
  rl : Rel (wrN B g q fb nb R i).2 F1
  rb : RbAt X b L.p B
  tn : Turn L.M w X
  pc : Rws X (some ⟨gS, 0, none⟩) 9 Fp
section
variable {M : Nat → Prop} {L : RLay} {R : Rk} {F : Rf} {w : World} {B : Bn} {b : Nat}
theorem WzI.next {X X' : World} {gS : Nat} {g q : Int} {fb : Nat → BlP} {nb i : Nat} {Fp : Nat → Pc} {F1 : Rf} (h : WzI w M L R B b gS g q fb nb i Fp F1 X) (hb : Below X.heap.size X X') : WzI w M L R B b gS g q fb nb i Fp F1 X' :=
  ⟨h.st, h.rf.below hb, h.rl, h.rb.next hb, h.tn.trans (Turn.of_below hb), h.pc.next hb⟩
set_option maxRecDepth 100000 in
set_option maxHeartbeats 8000000 in
theorem write_ref (g q : Int) (ab : Option Addr) (nb cb : Nat) (fb : Nat → BlP) (hr : RefAt w M L F) (hb : RbAt w b L.p B) (hbM : ¬ L.M b) (hrel : Rel R F) (hS : Sml B) (hbl : Bls w ab nb fb) (hbig : BlBig nb fb) (hnb : nb ≤ 1000000000000) :
    Calls Tryz.prog 31 #[.pointer (some ⟨b, 0, none⟩), .int .i64 g, .int .i64 q, .slice ab nb cb] w (RqPost M L (wrR B R 3 3 g q fb nb) w (.int .i64 (wrE B R 3 3 g q fb nb))) := by
  have c1 := hb.c1
  have c2 := hb.c2
  have c3 := hb.c3
  rw [hS.d] at c1
  rw [hS.r] at c2
  rw [hS.s] at c3
  have HR := Lib.hid hr
  have HB := Lib.hid hb
  have HBM := Lib.hid hbM
  have HREL := Lib.hid hrel
  have HSM := Lib.hid hS
  have HNO : rgO B g q = false → Hid (wrE B R 3 3 g q fb nb = 28 ∧ wrR B R 3 3 g q fb nb = R) := fun h => ⟨by unfold wrE; rw [if_pos h], by unfold wrR; rw [if_pos h]⟩
  by_cases g0 : g < 0
  · have H := HNO (by rw [rgO, segO_out hS (.inl g0)]; rfl)
    clear HNO hr hb hbM hrel hS hbl hbig
    go_enter Tryz.func31, Tryz.ntmps31
    go_wp2_with (fail)
    go_ret
    rw [H.out.1, H.out.2]
    exact ⟨F, ⟨rfl, HR.out, Turn.refl _ _⟩, HREL.out⟩
  by_cases g1 : 12 ≤ g
  · have H := HNO (by rw [rgO, segO_out hS (.inr g1)]; rfl)
    have d0 : decide (g < 0) = false := decide_eq_false g0
    clear HNO hr hb hbM hrel hS hbl hbig g0
    go_enter Tryz.func31, Tryz.ntmps31
    go_wp2_with (fail)
    go_ret
    rw [H.out.1, H.out.2]
    exact ⟨F, ⟨rfl, HR.out, Turn.refl _ _⟩, HREL.out⟩
  by_cases q0 : q < 1
  · have H := HNO (by rw [rgO, decide_eq_false (by omega), Bool.and_false])
    have d0 : decide (g < 0) = false := decide_eq_false g0
    have d1 : decide (12 ≤ g) = false := decide_eq_false g1
    clear HNO hr hb hbM hrel hS hbl hbig g0 g1
    go_enter Tryz.func31, Tryz.ntmps31
    go_wp2_with (fail)
    go_ret
    rw [H.out.1, H.out.2]
    exact ⟨F, ⟨rfl, HR.out, Turn.refl _ _⟩, HREL.out⟩
  by_cases q1 : 4294967296 ≤ q
  · have H := HNO (by rw [rgO, decide_eq_false (by omega), Bool.and_false])
    have d0 : decide (g < 0) = false := decide_eq_false g0
    have d1 : decide (12 ≤ g) = false := decide_eq_false g1
    have d2 : decide (q < 1) = false := decide_eq_false q0
    clear HNO hr hb hbM hrel hS hbl hbig g0 g1 q0
    go_enter Tryz.func31, Tryz.ntmps31
    go_wp2_with (fail)
    go_ret
    rw [H.out.1, H.out.2]
    exact ⟨F, ⟨rfl, HR.out, Turn.refl _ _⟩, HREL.out⟩
  have hrg : rgO B g q = true := by rw [rgO, segO_in hS (by omega) (by omega), decide_eq_true (by omega)]; rfl
  have hg := sg_small (g := g) (by omega) (by omega)
  have d0 : decide (g < 0) = false := decide_eq_false g0
  have d1 : decide (12 ≤ g) = false := decide_eq_false g1
  have d2 : decide (q < 1) = false := decide_eq_false q0
  have d3 : decide (4294967296 ≤ q) = false := decide_eq_false q1
  have HQ : Hid (q ≤ 9223372036854775807) := by show _ ≤ _; omega
  have hpl := fun w => rplaces_yes 3 3 12 w hg.toRt
  rw [show PL 3 3 = 5 by rfl] at hpl
  obtain ⟨er, her⟩ : ∃ e, e = wrE B R 3 3 g q fb nb := ⟨_, rfl⟩
  obtain ⟨R', hR'⟩ : ∃ e, e = wrR B R 3 3 g q fb nb := ⟨_, rfl⟩
  rw [← her, ← hR']
  unfold wrE at her
  unfold wrR at hR'
  rw [if_neg (by rw [hrg]; simp), show (3 : Nat) * (3 - 1) = 6 from rfl, ← wrN_row hS 3, show 3 * 3 = 9 from rfl] at her
  rw [if_neg (by rw [hrg]; simp), show (3 : Nat) * (3 - 1) = 6 from rfl, ← wrN_row hS 3, show 3 * 3 = 9 from rfl] at hR'
  have HER := Lib.hid her
  have HRR := Lib.hid hR'
  have HG := Lib.hid hg
  have hbl0 := hb.lt
  have HC : Hid (∀ wr, Below w.heap.size w wr → wr.cell? ⟨b, 1, none⟩ = some (.int .i64 3) ∧ wr.cell? ⟨b, 2, none⟩ = some (.int .i64 3) ∧ wr.cell? ⟨b, 3, none⟩ = some (.int .i64 12)) := fun wr h1 =>
    ⟨(h1.cell (p := ⟨b, 1, none⟩) hbl0).trans c1, (h1.cell (p := ⟨b, 2, none⟩) hbl0).trans c2, (h1.cell (p := ⟨b, 3, none⟩) hbl0).trans c3⟩
  have HCT : Hid (∀ wr, Turn L.M w wr → wr.cell? ⟨b, 1, none⟩ = some (.int .i64 3) ∧ wr.cell? ⟨b, 2, none⟩ = some (.int .i64 3) ∧ wr.cell? ⟨b, 3, none⟩ = some (.int .i64 12)) := fun wr h1 =>
    ⟨(h1.cell (a := ⟨b, 1, none⟩) hbl0 hbM).trans c1, (h1.cell (a := ⟨b, 2, none⟩) hbl0 hbM).trans c2, (h1.cell (a := ⟨b, 3, none⟩) hbl0 hbM).trans c3⟩
  have HBL := Lib.hid hbl
  have HBIG := Lib.hid hbig
  clear HNO g0 g1 q0 q1 hrg her hR' hg hr hb hbM hrel hS hbl hbig hbl0
  go_enter Tryz.func31, Tryz.ntmps31
  go_wp2_with (fail)
  refine (hpl w).mono ?_
  rintro e w1 ⟨rfl, hb1⟩
  have HB1 := Lib.hid hb1
  clear hpl hb1 c1 c2 c3
  by_cases n6 : 6 < nb
  · have hen : encB q fb nb 6 = false := by unfold encB; rw [decide_eq_false (by omega)]; rfl
    have H : Hid (er = 41 ∧ R' = R) := ⟨by rw [HER.out, if_pos hen], by rw [HRR.out, if_pos hen]⟩
    have n6' : (6 : Int) < (nb : Int) := by omega
    clear hen n6
    go_wp2_with (fail)
    go_ret
    rw [H.out.1, H.out.2]
    exact ⟨F, ⟨rfl, HR.out.below HB1.out, Turn.of_below HB1.out⟩, HREL.out⟩
  have n6' : decide ((6 : Int) < (nb : Int)) = false := decide_eq_false (by omega)
  have n6'' : decide (6 < nb) = false := decide_eq_false n6
  have heb : encB q fb nb 6 = enO q fb nb 6 := by unfold encB; rw [decide_eq_true (by omega), Bool.true_and]
  rw [heb] at HER HRR
  obtain ⟨c1, c2, c3⟩ := HC.out w1 HB1.out
  have hse := sectors_ref q ab nb cb fb w1 (HBL.out.next HB1.out) HBIG.out HQ.out (by omega)
  clear n6 heb
  cases hen : enO q fb nb 6 with
  | false =>
    have hse' := hse.mono (fun e w' h => (show e = .returned (.tuple #[.slice none 0 0, .bool false]) ∧ Below w1.heap.size w1 w' by unfold SecPost at h; rw [hen, if_neg (by simp)] at h; exact h))
    have H : Hid (er = 41 ∧ R' = R) := ⟨by rw [HER.out, if_pos hen], by rw [HRR.out, if_pos hen]⟩
    clear hen hse
    go_wp2_with (fail)
    refine hse'.mono ?_
    rintro e w2 ⟨rfl, hb2⟩
    have HB2 := Lib.hid (HB1.out.trans (hb2.mono HB1.out.size))
    clear hse' hb2 c1 c2 c3
    go_wp2_with (fail)
    go_ret
    rw [H.out.1, H.out.2]
    exact ⟨F, ⟨rfl, HR.out.below HB2.out, Turn.of_below HB2.out⟩, HREL.out⟩
  | true =>
    have hse' := hse.mono (fun e w' h => (show ∃ gS c F, e = .returned (.tuple #[.slice (some ⟨gS, 0, none⟩) 9 c, .bool true]) ∧ Rws w' (some ⟨gS, 0, none⟩) 9 F ∧ w1.heap.size ≤ gS ∧ (∀ a j, a < 3 → j < 3 → (F (3 * a + j)).zs = rowE q fb nb 2 a j) ∧ (∀ i, i < 9 → ∀ x, (F i).a = some x → w1.heap.size ≤ x.block) ∧ 9 ≤ c ∧ c ≤ 9223372036854775807 ∧ Below w1.heap.size w1 w' by unfold SecPost at h; rw [hen, if_pos rfl] at h; exact h))
    rw [if_neg (by rw [hen]; simp)] at HER HRR
    clear hen hse
    go_wp2_with (fail)
    refine hse'.mono ?_
    rintro e w2 ⟨gS, cS, Fp, rfl, hpc, hgS, hzs, hfr, h9c, hcm, hb2⟩
    have HPC := Lib.hid hpc
    have HB2 := Lib.hid (HB1.out.trans (hb2.mono HB1.out.size))
    have HLOW : Hid (∀ k, L.M k → k < w.heap.size) := fun k hk => HR.out.low k (HR.out.sub k hk)
    have HLOM : Hid (∀ k, M k → k < w.heap.size) := fun k hk => HR.out.low k hk
    have HGS : Hid (w.heap.size ≤ gS) := Nat.le_trans HB1.out.size hgS
    have HFR : Hid (∀ i, i < 9 → ∀ x, (Fp i).a = some x → w.heap.size ≤ x.block) := fun i hi x hx => Nat.le_trans HB1.out.size (hfr i hi x hx)
    have HZS : Hid (∀ i, i < 9 → (Fp i).zs = rowE q fb nb 2 (i / 3) (i % 3)) := fun i hi => by
      have := hzs (i / 3) (i % 3) (by omega) (by omega)
      rwa [show 3 * (i / 3) + i % 3 = i by omega] at this
    have hbd := rbad_any 3 (HR.out.below HB2.out) (HB.out.next HB2.out) HSM.out.d (by omega)
    rw [← HREL.out.badL] at hbd
    clear hse' hpc hgS hzs hfr hb2 c1 c2 c3
    go_wp2_with (fail)
    refine hbd.mono ?_
    rintro e w3 ⟨v, rfl, ho, hb3⟩
    obtain ⟨ka, kc, rfl, _, _, _, _⟩ := ho.ins
    obtain ⟨kn, hkn⟩ : ∃ n, n = (badL B R 3).length := ⟨_, rfl⟩
    have hk3 : kn ≤ 3 := by rw [hkn]; exact badL_len B R 3
    rw [← hkn]
    have HB3 := Lib.hid (HB2.out.trans (hb3.mono HB2.out.size))
    have HPC3 := Lib.hid (HPC.out.next hb3)
    have HT0 : Hid (twoB B R 3 = decide (1 < kn)) := by show _ = _; rw [twoB, hkn]
    clear hbd ho hb3 hkn
    by_cases hk1 : 1 < kn
    · have H : Hid (er = 14 ∧ R' = R) := by
        have : twoB B R 3 = true := by rw [HT0.out, decide_eq_true hk1]
        exact ⟨by rw [HER.out, if_pos this], by rw [HRR.out, if_pos this]⟩
      have hk1' : (1 : Int) < (kn : Int) := by omega
      clear hk1
      go_wp2_with (fail)
      go_ret
      rw [H.out.1, H.out.2]
      exact ⟨F, ⟨rfl, HR.out.below HB3.out, Turn.of_below HB3.out⟩, HREL.out⟩
    have ht0 : twoB B R 3 = false := by rw [HT0.out, decide_eq_false hk1]
    rw [if_neg (by rw [ht0]; simp)] at HER HRR
    have hk1' : decide ((1 : Int) < (kn : Int)) = false := decide_eq_false (by omega)
    have hk1'' : decide (1 < kn) = false := decide_eq_false hk1
    have HI0 : Hid (WzI w M L R B b gS g q fb nb 0 Fp F w3) := ⟨rfl, HR.out.below HB3.out, HREL.out, HB.out.next HB3.out, Turn.of_below HB3.out, HPC3.out⟩
    clear ht0 hk1
    go_wp2_with (fail)
    clear hk1' hk1'' n6' n6'' d0 d1 d2 d3
    go_loopw [11, 12] (fun v _p wr => ∃ (i : Nat) (F1 : Rf), i ≤ 9 ∧ v = .int .i64 i ∧ WzI w M L R B b gS g q fb nb i Fp F1 wr) (fun v _ _ => 9 - (RowKit.intOf v).toNat)
    case atStart => exact ⟨0, F, by omega, rfl, HI0.out⟩
    case round =>
      obtain ⟨i, F1, hi, rfl, hI⟩ := hrel
      obtain ⟨c1, c2, c3⟩ := HCT.out wr hI.tn
      have HI := Lib.hid hI
      clear hI HI0
      by_cases hlt : i < 9
      · obtain ⟨D, hD⟩ : ∃ D, D = qD g i := ⟨_, rfl⟩
        obtain ⟨z, hz⟩ : ∃ z, z = qS g i := ⟨_, rfl⟩
        obtain ⟨zs, hzs⟩ : ∃ z, z = rowE q fb nb 2 (i / 3) (i % 3) := ⟨_, rfl⟩
        obtain ⟨R1, hR1⟩ : ∃ r, r = (wrN B g q fb nb R i).2 := ⟨_, rfl⟩
        have hsp : ∀ w, Calls Tryz.prog 80 #[gv 3 3 12, .int .i64 g, .int .i64 i] w fun e w' => e = .returned (spV D z) ∧ Below w.heap.size w w' := fun w => by
          rw [hD, hz]
          exact spot_any g i w HG.out hlt
        have HST : Hid (wrN B g q fb nb R (i + 1) = (decide (bwE B R1 D z zs = 12), bw B R1 D z zs)) := by show _ = _; rw [wrN, if_neg (by rw [HI.out.st]; simp), hD, hz, hzs, hR1]
        have HRL : Hid (Rel R1 F1) := by rw [hR1]; exact HI.out.rl
        have HZ : Hid ((Fp i).zs = zs) := by show _ = _; rw [hzs]; exact HZS.out i hlt
        clear hD hz hzs hR1
        go_wp2_with (fail)
        refine (hsp _).mono ?_
        rintro e w4 ⟨rfl, hb4⟩
        obtain ⟨p, hp⟩ : ∃ p, p = w4.heap.size := ⟨_, rfl⟩
        obtain ⟨W5, hW5⟩ : ∃ W5, W5 = w4.alloc (.cells #[.int .i64 D, .int .i64 z] 116) := ⟨_, rfl⟩
        have hb5 : Below wr.heap.size wr W5 := by rw [hW5]; exact hb4.alloc hb4.size _
        have s0 : W5.cell? ⟨p, 0, none⟩ = some (.int .i64 D) := by rw [hW5, hp]; simp
        have s1 : W5.cell? ⟨p, 1, none⟩ = some (.int .i64 z) := by rw [hW5, hp]; simp
        have sl : p < W5.heap.size := by rw [hW5, hp]; simp
        have hpw : w.heap.size ≤ p := by rw [hp]; exact Nat.le_trans HI.out.tn.size hb4.size
        clear hsp hb4 c1 c2 c3
        go_wp2_with (fail)
        rw [← hW5, ← hp]
        have hb0 : Below W5.heap.size W5 W5.drew := below_drewN (Below.refl _ W5) 1
        have hb6 := hb5.trans (hb0.mono hb5.size)
        have HI6 := Lib.hid (HI.out.next hb6)
        have t0 : W5.drew.cell? ⟨p, 0, none⟩ = some (.int .i64 D) := s0
        have t1 : W5.drew.cell? ⟨p, 1, none⟩ = some (.int .i64 z) := s1
        have tl : p < W5.drew.heap.size := sl
        generalize hW6 : W5.drew = W6 at *
        clear hW5 hp s0 s1 sl hb0 hb5 hb6
        have hpin := HI6.out.pc.each i hlt
        rw [HZ.out] at hpin
        obtain ⟨gp, off, eg, hgl, hcell⟩ := HI6.out.pc.place.resolve_left (by omega)
        cases eg
        have k0 := hcell i hlt
        rw [Nat.zero_add] at k0
        have hwrt := rbwrite_any D z (Fp i).a (Fp i).n (Fp i).c zs HI6.out.rf HI6.out.rb HBM.out hpin.bys (.inr fun bb off e x => by
          have h1 := HFR.out i hlt _ e
          have h2 := HLOM.out bb x
          simp only at h1
          omega)
        rw [← HRL.out.bwE] at hwrt
        obtain ⟨ew, hew⟩ : ∃ e, e = bwE B R1 D z zs := ⟨_, rfl⟩
        rw [← hew] at hwrt HST
        have HRL2 := Lib.hid (HRL.out.bw B D z zs)
        have HNX : Hid (∀ w' F', RefPost M L F' W6 (.int .i64 ew) (.returned (.int .i64 ew)) w' → w'.cell? ⟨p, 0, none⟩ = some (.int .i64 D) ∧ w'.cell? ⟨p, 1, none⟩ = some (.int .i64 z) ∧ w'.cell? ⟨gS, i, none⟩ = some (.slice (Fp i).a (Fp i).n (Fp i).c) ∧ RbAt w' b L.p B ∧ Turn L.M w w' ∧ Rws w' (some ⟨gS, 0, none⟩) 9 Fp) := fun w' F' h => by
          obtain ⟨_, _, ht⟩ := h
          have np : ¬ L.M p := fun x => by have := HLOW.out p x; omega
          have ng : ¬ L.M gS := fun x => by have := HLOW.out gS x; have := HGS.out; omega
          exact ⟨(ht.cell (a := ⟨p, 0, none⟩) tl np).trans t0, (ht.cell (a := ⟨p, 1, none⟩) tl np).trans t1, (ht.cell (a := ⟨gS, i, none⟩) hgl ng).trans k0, HI6.out.rb.turn ht HBM.out, HI6.out.tn.trans ht, HI6.out.pc.turn ht ng fun j hj => .inr fun x hx y => by have h1 := HFR.out j hj x hx; have h2 := HLOW.out _ y; omega⟩
        clear hpin hgl hcell hew hpw
        refine wp_region_held_drew (S := fun w' => w'.cell? ⟨p, 0, none⟩ = some (.int .i64 D) ∧ w'.cell? ⟨p, 1, none⟩ = some (.int .i64 z) ∧ w'.cell? ⟨gS, i, none⟩ = some (.slice (Fp i).a (Fp i).n (Fp i).c)) (by kernel_rfl) ?_ (fun hHeld => ?_)
        · rw [hW6]; exact ⟨t0, t1, k0⟩
        rw [hW6] at hHeld
        rw [hW6]
        clear hW6
        refine wpAnyH_take (i := 0) (v := ?_) rfl (by kernel_rfl) (by kernel_rfl) (by kernel_rfl) (fun _ _ _ h => h) (Or.inl ⟨by rfl, fun w hSw => ?_⟩) (by assumption) ?_
        rotate_left
        · (try dsimp only at hSw); go_simp; try with_reducible rfl
        simp only [Act.put, List.setIfInBounds_toArray, List.set_cons_zero, List.set_cons_succ, List.getElem_toArray, List.getElem_cons_zero]
        refine wpAnyH_take (i := 1) (v := ?_) rfl (by kernel_rfl) (by kernel_rfl) (by kernel_rfl) (fun _ _ _ h => h) (Or.inl ⟨by rfl, fun w hSw => ?_⟩) (by assumption) ?_
        rotate_left
        · (try dsimp only at hSw); go_simp; try with_reducible rfl
        simp only [Act.put, List.setIfInBounds_toArray, List.set_cons_zero, List.set_cons_succ, List.getElem_toArray, List.getElem_cons_succ, List.getElem_cons_zero]
        refine wpAnyH_take (i := 2) (v := ?_) rfl (by kernel_rfl) (by kernel_rfl) (by kernel_rfl) (fun _ _ _ h => h) (Or.inl ⟨by rfl, fun w hSw => ?_⟩) (by assumption) ?_
        rotate_left
        · (try dsimp only at hSw); go_simp; try with_reducible rfl
        simp only [Act.put, List.setIfInBounds_toArray, List.set_cons_zero, List.set_cons_succ, List.getElem_toArray, List.getElem_cons_succ, List.getElem_cons_zero]
        refine wpAnyH_take (i := 3) (v := ?_) rfl (by kernel_rfl) (by kernel_rfl) (by kernel_rfl) (fun _ _ _ h => h) (Or.inl ⟨by rfl, fun w hSw => ?_⟩) (by assumption) ?_
        rotate_left
        · (try dsimp only at hSw); go_simp; try with_reducible rfl
        simp only [Act.put, List.setIfInBounds_toArray, List.set_cons_zero, List.set_cons_succ, List.getElem_toArray, List.getElem_cons_succ, List.getElem_cons_zero]
        refine wpAnyH_take (i := 4) (v := ?_) rfl (by kernel_rfl) (by kernel_rfl) (by kernel_rfl) (fun _ _ _ h => h) (Or.inl ⟨by rfl, fun w hSw => ?_⟩) (by assumption) ?_
        rotate_left
        · (try dsimp only at hSw); go_simp; try with_reducible rfl
        simp only [Act.put, List.setIfInBounds_toArray, List.set_cons_zero, List.set_cons_succ, List.getElem_toArray, List.getElem_cons_succ, List.getElem_cons_zero]
        refine wpAnyH_take (i := 5) (v := ?_) rfl (by kernel_rfl) (by kernel_rfl) (by kernel_rfl) (fun _ _ _ h => h) (Or.inl ⟨by rfl, fun w hSw => ?_⟩) (by assumption) ?_
        rotate_left
        · (try dsimp only at hSw); go_simp; try with_reducible rfl
        simp only [Act.put, List.setIfInBounds_toArray, List.set_cons_zero, List.set_cons_succ, List.getElem_toArray, List.getElem_cons_succ, List.getElem_cons_zero]
        refine wpAnyH_take (i := 6) (v := ?_) rfl (by kernel_rfl) (by kernel_rfl) (by kernel_rfl) (fun _ _ _ h => h) (Or.inl ⟨by rfl, fun w hSw => ?_⟩) (by assumption) ?_
        rotate_left
        · (try dsimp only at hSw); go_simp; try with_reducible rfl
        simp only [Act.put, List.setIfInBounds_toArray, List.set_cons_zero, List.set_cons_succ, List.getElem_toArray, List.getElem_cons_succ, List.getElem_cons_zero]
        refine wpAnyH_take (i := 7) (v := ?_) rfl (by kernel_rfl) (by kernel_rfl) (by kernel_rfl) (fun _ _ _ h => h) (Or.inl ⟨by rfl, fun w hSw => ?_⟩) (by assumption) ?_
        rotate_left
        · (try dsimp only at hSw); go_simp; try with_reducible rfl
        simp only [Act.put, List.setIfInBounds_toArray, List.set_cons_zero, List.set_cons_succ, List.getElem_toArray, List.getElem_cons_succ, List.getElem_cons_zero]
        refine wpAnyH_take (i := 8) (v := ?_) rfl (by kernel_rfl) (by kernel_rfl) (by kernel_rfl) (fun _ _ _ h => h) (Or.inl ⟨by rfl, fun w hSw => ?_⟩) (by assumption) ?_
        rotate_left
        · (try dsimp only at hSw); go_simp; try with_reducible rfl
        simp only [Act.put, List.setIfInBounds_toArray, List.set_cons_zero, List.set_cons_succ, List.getElem_toArray, List.getElem_cons_succ, List.getElem_cons_zero]
        refine wpAnyH_ready (rs := [9]) (by kernel_rfl) (by simp) ?_
        refine AllReadyH.cons rfl (fun K hK => ?_) AllReadyH.nil
        simp only [List.getElem_toArray, List.getElem_cons_succ, List.getElem_cons_zero]
        go_simp
        refine hwrt.mono ?_
        rintro e w7 ⟨rfl, hr7, ht7⟩
        obtain ⟨u0, u1, u2, hb7, htn7, hpc7⟩ := HNX.out w7 _ ⟨rfl, hr7, ht7⟩
        have HR7 := Lib.hid hr7
        have HB7 := Lib.hid hb7
        have HT7 := Lib.hid htn7
        have HP7 := Lib.hid hpc7
        clear hwrt hr7 ht7 hb7 htn7 hpc7 HNX
        go_wp2_with (fail)
        refine hK.out _ _ ⟨u0, u1, u2⟩ (fun hHeld => ?_)
        clear hK K
        by_cases he : ew = 12
        · subst he
          refine wpAnyH_take (i := 10) (v := ?_) rfl (by kernel_rfl) (by kernel_rfl) (by kernel_rfl) (fun _ _ _ h => h) (Or.inl ⟨by rfl, fun w hSw => ?_⟩) (by assumption) ?_
          rotate_left
          · (try dsimp only at hSw); go_simp; try with_reducible rfl
          simp only [Act.put, List.setIfInBounds_toArray, List.set_cons_zero, List.set_cons_succ, List.getElem_toArray, List.getElem_cons_succ, List.getElem_cons_zero]
          refine wpAnyH_done (by kernel_rfl) ?_ _
          clear hHeld t0 t1 k0 u0 u1 u2 tl
          have hst : wrN B g q fb nb R 9 = (true, bw B R1 D z zs) := by
            rw [wrN_end (i := i + 1) hlt (by rw [HST.out]; rfl), HST.out]
            rfl
          have H : Hid (er = 12 ∧ R' = bw B R1 D z zs) := ⟨by rw [HER.out, hst]; rfl, by rw [HRR.out, hst]⟩
          clear hst
          go_wp2_with (fail)
          go_ret
          rw [H.out.1, H.out.2]
          exact ⟨_, ⟨rfl, HR7.out, HT7.out⟩, HRL2.out⟩
        · have he2 : (ew == 12) = false := by simpa using he
          have hst : wrN B g q fb nb R (i + 1) = (false, bw B R1 D z zs) := by rw [HST.out, decide_eq_false he]
          have HS7 := Lib.hid hst
          clear he hst
          refine wpAnyH_take (i := 10) (v := ?_) rfl (by kernel_rfl) (by kernel_rfl) (by kernel_rfl) (fun _ _ _ h => h) (Or.inl ⟨by rfl, fun w hSw => ?_⟩) (by assumption) ?_
          rotate_left
          · (try dsimp only at hSw); go_simp; try with_reducible rfl
          simp only [Act.put, List.setIfInBounds_toArray, List.set_cons_zero, List.set_cons_succ, List.getElem_toArray, List.getElem_cons_succ, List.getElem_cons_zero]
          refine wpAnyH_done (by kernel_rfl) ?_ _
          clear hHeld t0 t1 k0 u0 u1 u2 tl
          go_wp2_with (fail)
          go_roundw
          case rel => exact ⟨i + 1, _, by omega, by go_num, ⟨by rw [HS7.out], HR7.out, by rw [HS7.out]; exact HRL2.out, HB7.out, HT7.out, HP7.out⟩⟩
          case measure => simp [RowKit.intOf]; omega
      · obtain rfl : i = 9 := by omega
        have hbd := rbad_any 3 HI.out.rf HI.out.rb HSM.out.d (by omega)
        rw [← HI.out.rl.badL] at hbd
        rw [if_neg (by rw [HI.out.st]; simp)] at HER
        clear hlt c1 c2 c3
        go_wp2_with (fail)
        refine hbd.mono ?_
        rintro e w8 ⟨v, rfl, ho, hb8⟩
        obtain ⟨ka, kc, rfl, _, _, _, _⟩ := ho.ins
        obtain ⟨km, hkm⟩ : ∃ n, n = (badL B (wrN B g q fb nb R 9).2 3).length := ⟨_, rfl⟩
        have hk3 : km ≤ 3 := by rw [hkm]; exact badL_len B _ 3
        rw [← hkm]
        have HI8 := Lib.hid (HI.out.next hb8)
        have HT1 : Hid (twoB B (wrN B g q fb nb R 9).2 3 = decide (1 < km)) := by show _ = _; rw [twoB, hkm]
        clear hbd ho hb8 hkm
        by_cases hk1 : 1 < km
        · have H : Hid (er = 14 ∧ R' = (wrN B g q fb nb R 9).2) := ⟨by rw [HER.out, HT1.out, decide_eq_true hk1]; rfl, HRR.out⟩
          have hk1' : (1 : Int) < (km : Int) := by omega
          clear hk1
          go_wp2_with (fail)
          go_ret
          rw [H.out.1, H.out.2]
          exact ⟨_, ⟨rfl, HI8.out.rf, HI8.out.tn⟩, HI8.out.rl⟩
        · have H : Hid (er = 0 ∧ R' = (wrN B g q fb nb R 9).2) := ⟨by rw [HER.out, HT1.out, decide_eq_false hk1]; rfl, HRR.out⟩
          have hk1' : decide ((1 : Int) < (km : Int)) = false := decide_eq_false (by omega)
          have hk1'' : decide (1 < km) = false := decide_eq_false hk1
          clear hk1
          go_wp2_with (fail)
          go_ret
          rw [H.out.1, H.out.2]
          exact ⟨_, ⟨rfl, HI8.out.rf, HI8.out.tn⟩, HI8.out.rl⟩
end

end Go.Proofs.YtciddoeeiamndaaGreat
