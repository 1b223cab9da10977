/-
  The reference's fields, by contract.
-/
import Derived.Test.YtgdkcdgomopnfaaRefPuts
namespace Go.Proofs.Ytgdkcdgomopnfaa
open Go.RowKit

/-- How many bytes a kind's fields have. -/
def sizW (k : Int) : Nat := (posW (wids k) (wids k).length).toNat - 4
/-- What fields answers. -/
def FldPost (k : Int) (x : List Int) (w0 : World) (e : Ending) (w' : World) : Prop :=
  ∃ a n c, e = .returned (.tuple #[.slice a n c, .bool (fldO k (sizW k) x)]) ∧ (fldO k (sizW k) x = true → n = (wids k).length ∧ Ins w' a n (numsL x (wids k) n) ∧ ∀ y, a = some y → w0.heap.size ≤ y.block) ∧ Below w0.heap.size w0 w'
theorem FldPost.no {k : Int} {x : List Int} {w0 w' : World} (h : fldO k (sizW k) x = false) (hb : Below w0.heap.size w0 w') : FldPost k x w0 (.returned (.tuple #[.slice none 0 0, .bool false])) w' :=
  ⟨none, 0, 0, by rw [h], (fun e => absurd (h.symm.trans e) (by decide)), hb⟩
theorem fld_byt {k : Int} {s : Nat} {x : List Int} (h : fldO k s x = true) : byt x 0 = 77 ∧ byt x 1 = 79 ∧ byt x 2 = 82 ∧ byt x 3 = k := by
  rw [fldO, Bool.and_eq_true, decide_eq_true_eq] at h
  have e := h.1.2
  refine ⟨?_, ?_, ?_, ?_⟩
  · rw [← byt_take (n := 4) (i := 0) (zs := x) (by omega), e]; rfl
  · rw [← byt_take (n := 4) (i := 1) (zs := x) (by omega), e]; rfl
  · rw [← byt_take (n := 4) (i := 2) (zs := x) (by omega), e]; rfl
  · rw [← byt_take (n := 4) (i := 3) (zs := x) (by omega), e]; rfl
theorem take_of_byt {k : Int} {x : List Int} (hl : x.length = 64) (h0 : byt x 0 = 77) (h1 : byt x 1 = 79) (h2 : byt x 2 = 82) (h3 : byt x 3 = k) : x.take 4 = startL k := by
  refine byt_ext (by simp [startL, hl]) fun i hi => ?_
  have hi4 : i < 4 := by simpa [hl] using hi
  rw [byt_take hi4]
  rcases (by omega : i = 0 ∨ i = 1 ∨ i = 2 ∨ i = 3) with rfl | rfl | rfl | rfl
  · exact h0
  · exact h1
  · exact h2
  · exact h3
theorem fld_no {k : Int} {s : Nat} {x : List Int} (h : ¬ (x.length = 64 ∧ byt x 0 = 77 ∧ byt x 1 = 79 ∧ byt x 2 = 82 ∧ byt x 3 = k)) : fldO k s x = false := by
  cases hf : fldO k s x
  · rfl
  · exfalso
    obtain ⟨a, b, c, d⟩ := fld_byt hf
    rw [fldO, Bool.and_eq_true, decide_eq_true_eq] at hf
    exact h ⟨hf.1.1, a, b, c, d⟩
/-- The reading loop's relation. -/
def FldRel (k : Int) (x : List Int) (w0 : World) (n : Nat) (u p v : Value) (w : World) : Prop :=
  ∃ i : Nat, i ≤ n ∧ v = .int .i64 i ∧ p = .int .i64 (posW (wids k) i) ∧ OwnI w w0.heap.size u i (numsL x (wids k) i) ∧ Below w0.heap.size w0 w
set_option maxHeartbeats 4000000 in
theorem fields_any (k : Int) (a b : Option Addr) (n c m d : Nat) (x : List Int) (w : World) (h0 : 0 ≤ k ∧ k ≤ 255) (hx : Pin w a n c x) (hy : Ins w b m (wids k)) (hm : m = (wids k).length) :
    Calls Try.prog 39 #[.slice a n c, .int .u8 k, .slice b m d] w (FldPost k x w) := by
  by_cases h64 : n = 64
  · subst h64
    obtain ⟨ba, oa, rfl, hlt, hca⟩ := hx.at (by omega)
    have z0 : w.cell? ⟨ba, oa, none⟩ = some (.int .u8 (byt x 0)) := hca 0 (by omega)
    have z1 := hca 1 (by omega)
    have z2 := hca 2 (by omega)
    have z3 := hca 3 (by omega)
    clear hca
    have HXL := Lib.hid hx.len
    have b0 := byt_bd hx.bys.small 0
    have b1 := byt_bd hx.bys.small 1
    have b2 := byt_bd hx.bys.small 2
    have b3 := byt_bd hx.bys.small 3
    obtain ⟨x0, e0⟩ : ∃ z, z = byt x 0 := ⟨_, rfl⟩
    obtain ⟨x1, e1⟩ : ∃ z, z = byt x 1 := ⟨_, rfl⟩
    obtain ⟨x2, e2⟩ : ∃ z, z = byt x 2 := ⟨_, rfl⟩
    obtain ⟨x3, e3⟩ : ∃ z, z = byt x 3 := ⟨_, rfl⟩
    rw [← e0] at z0 b0
    rw [← e1] at z1 b1
    rw [← e2] at z2 b2
    rw [← e3] at z3 b3
    have HE := Lib.hid (And.intro e0 (And.intro e1 (And.intro e2 e3)))
    clear e0 e1 e2 e3
    by_cases q : x0 = 77 ∧ x1 = 79 ∧ x2 = 82 ∧ x3 = k
    · obtain ⟨rfl, rfl, rfl, rfl⟩ := q
      have HM := Lib.hid hm
      have hm3 := wids_len x3
      rw [← hm] at hm3
      have HT := Lib.hid (take_of_byt HXL.out HE.out.1.symm HE.out.2.1.symm HE.out.2.2.1.symm HE.out.2.2.2.symm)
      have hcap := hx.cap
      have hmax := hx.max
      obtain ⟨bb, ob, rfl, hltb, hcb⟩ := hy.at (by omega)
      have HB := Lib.hid hcb
      clear hm hy hcb b0 b1 b2 b3 HE
      go_enter Try.func39, Try.ntmps39
      go_wp2_with (fail)
      clear z0 z1 z2 z3
      go_loopw [8, 9, 10, 11, 12] (fun u p v _q _r wr => FldRel x3 x w m u p v wr) (fun _ _ v _ _ _ => m - (intOf v).toNat)
      case atStart => exact ⟨0, Nat.zero_le _, rfl, rfl, ownI_none _ _ (Nat.le_refl _), bel_a1 w _⟩
      case round =>
        obtain ⟨i, hi, rfl, rfl, ho, hb⟩ := hrel
        have hsz := hb.size
        have hxr := hx.next hb
        have hpb := posW_bd x3 i (by rw [← HM.out]; exact hi)
        obtain ⟨p, hp⟩ : ∃ p, p = posW (wids x3) i := ⟨_, rfl⟩
        rw [← hp] at hpb ⊢
        have HP := Lib.hid hp
        clear hp
        obtain ⟨au, cu, rfl, _, _, _, _⟩ := ho.ins
        by_cases hlt2 : i < m
        · have y1 : wr.cell? ⟨bb, ob + i, none⟩ = some (.int .i64 (num (wids x3) i)) := (hb.cell (p := ⟨bb, ob + i, none⟩) hltb).trans (HB.out i hlt2)
          have hwb := wids_bd x3 i (by rw [← HM.out]; exact hlt2)
          obtain ⟨z, hz⟩ : ∃ z, z = num (wids x3) i := ⟨_, rfl⟩
          rw [← hz] at y1 hwb
          have HZ := Lib.hid hz
          clear hz
          have k1 : (i : Int) < (m : Int) := by omega
          clear hx
          go_wp2_with (fail)
          refine (refGet_fun _ 64 c p z x wr hxr.bys (by omega)).mono ?_
          rintro e w3 ⟨rfl, rfl⟩
          obtain ⟨G, hG⟩ : ∃ G, G = getV 64 x p z := ⟨_, rfl⟩
          rw [← hG]
          have HG := Lib.hid hG
          clear hG
          have hbl := hb.alloc hsz (.cells #[.int .i64 G] 3 (0, 0))
          have hol := ho.alloc (.cells #[.int .i64 G] 3 (0, 0))
          have y2 : (wr.alloc (.cells #[.int .i64 G] 3 (0, 0))).cell? ⟨bb, ob + i, none⟩ = some (.int .i64 z) := (((Below.refl wr.heap.size wr).alloc (Nat.le_refl _) _).cell (p := ⟨bb, ob + i, none⟩) (Nat.lt_of_lt_of_le hltb hsz)).trans y1
          clear hxr ho
          go_wp2_with (at_builtin; go_must (refine wpList_api rfl (.tmp 58) (.tmp 60) rfl w.heap.size _ i _ rfl hol wr.heap.size G rfl (by simp) (by omega) (by simp; omega) w hbl ?_); intro v4 w4 ho4 hB4; have y3 : w4.cell? ⟨bb, ob + i, none⟩ = some (.int .i64 z) := (hB4.cell (p := ⟨bb, ob + i, none⟩) hltb).trans (by rw [HB.out i hlt2, HZ.out]))
          go_roundw
          case rel =>
            refine ⟨i + 1, by omega, by go_num, ?_, ?_, hB4⟩
            · rw [posW, ← HP.out, ← HZ.out]
            · rw [numsL, HXL.out, ← HP.out, ← HZ.out, ← HG.out]; exact ho4
          case measure => simp [intOf]; omega
        · obtain rfl : i = m := by omega
          obtain ⟨q, rfl⟩ := Int.eq_ofNat_of_zero_le (show 0 ≤ p by omega)
          have hq : ¬ c = q := by omega
          obtain ⟨_, _, e6, hi6, _, _, hnew6⟩ := ho.ins
          cases e6
          have hqs : Hid (4 + sizW x3 = q) := by
            show _ = _
            rw [sizW, ← HM.out, ← HP.out]
            simp
            omega
          clear hx
          go_wp2_with (fail)
          refine (refNought_any _ (64 - q) (c - q) (x.drop q) wr (hxr.rest q).bys (by omega)).mono ?_
          rintro e w3 ⟨rfl, rfl⟩
          have hF : Hid (fldO x3 (sizW x3) x = noughtB (x.drop q)) := by
            show _ = _
            rw [fldO, hqs.out, decide_eq_true ⟨HXL.out, HT.out⟩, Bool.true_and]
          clear hxr
          go_wp2_with (fail)
          go_ret2
          exact ⟨au, i, cu, by rw [hF.out]; rfl, fun _ => ⟨HM.out, hi6, fun y hy => (hnew6 y hy).1⟩, hb⟩
    · have hF : Hid (fldO k (sizW k) x = false) := fld_no fun h => q ⟨HE.out.1.trans h.2.1, HE.out.2.1.trans h.2.2.1, HE.out.2.2.1.trans h.2.2.2.1, HE.out.2.2.2.trans h.2.2.2.2⟩
      by_cases q0 : x0 = 77
      · by_cases q1 : x1 = 79
        · by_cases q2 : x2 = 82
          · have q3 : ¬ x3 = k := fun e => q ⟨q0, q1, q2, e⟩
            clear q
            subst q0 q1 q2
            go_enter Try.func39, Try.ntmps39
            go_wp2_with (fail)
            go_ret2
            exact FldPost.no hF.out (Below.refl _ _)
          · clear q
            subst q0 q1
            go_enter Try.func39, Try.ntmps39
            go_wp2_with (fail)
            go_ret2
            exact FldPost.no hF.out (Below.refl _ _)
        · clear q
          subst q0
          go_enter Try.func39, Try.ntmps39
          go_wp2_with (fail)
          go_ret2
          exact FldPost.no hF.out (Below.refl _ _)
      · clear q
        go_enter Try.func39, Try.ntmps39
        go_wp2_with (fail)
        go_ret2
        exact FldPost.no hF.out (Below.refl _ _)
  · have h1 : ((n : Int) != 64) = true := by simp; omega
    have hF : Hid (fldO k (sizW k) x = false) := fld_no fun h => h64 (by rw [← hx.len]; exact h.1)
    clear hx hy h64
    go_enter Try.func39, Try.ntmps39
    go_wp2_with (fail)
    go_ret2
    exact FldPost.no hF.out (Below.refl _ _)

end Go.Proofs.Ytgdkcdgomopnfaa
