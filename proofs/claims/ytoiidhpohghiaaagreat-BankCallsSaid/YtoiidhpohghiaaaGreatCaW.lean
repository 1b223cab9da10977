/-
  BankCalls' walk.
-/
import Derived.Test.YtoiidhpohghiaaaGreatTAll
import Derived.Test.YtoiidhpohghiaaaGreatSet2
import Derived.Test.YtoiidhpohghiaaaGreatAlv
namespace Go.Proofs.YtoiidhpohghiaaaGreat
open Go.RowKit Go.Maps
set_option linter.unusedVariables false

theorem new_two {w w6 : World} {B p n S : Nat} {v : Nat → Value} {xs : Nat → List Value} {L : Lay} {R : Rk} (hr : RackAt w (L.M R.n) L R) (hb : Below w.heap.size w w6)
    (hD : NewD w6 B p n S (fun i => if i < 2 then n * S else n) v xs) (hx1 : xs 1 = List.replicate (n * S) (.slice none 0 0)) (hx2 : xs 2 = List.replicate n (.bool false)) (hx3 : xs 3 = List.replicate n (.int .i64 (-1)))
    (hB : w.heap.size ≤ B) (h1 : 1 ≤ n) (h2 : n ≤ 17) (h3 : 1 ≤ S) (h4 : S ≤ 4096) (hBp : B ≤ w6.heap.size) :
    ∃ (K : RLay) (g0 m0 g1 m1 g2 m2 g3 m3 : Nat), v 0 = .slice (some ⟨g0, 0, none⟩) (n * S) m0 ∧ v 1 = .slice (some ⟨g1, 0, none⟩) (n * S) m1 ∧ v 2 = .slice (some ⟨g2, 0, none⟩) n m2 ∧ v 3 = .slice (some ⟨g3, 0, none⟩) n m3 ∧ K.p = w6.heap.size ∧ (∀ k, K.M k → w.heap.size ≤ k) ∧
      Both (w6.alloc (.cells #[.int .i64 n, .int .i64 S, .slice (some ⟨g0, 0, none⟩) (n * S) m0, .slice (some ⟨g1, 0, none⟩) (n * S) m1, .slice (some ⟨g2, 0, none⟩) n m2, .slice (some ⟨g3, 0, none⟩) n m3, .int .i64 (-1), .bool false] 41 (0, 0))) L K R (newRf n S) := by
  obtain ⟨K, e1, e2, e3⟩ := both_new2 (R := R) hr hb hD hx1 hx2 hx3 hB hBp h1 h2 h3 h4
  have hkp : 0 < n * S := Nat.mul_pos h1 h3
  obtain ⟨g0, m0, f0⟩ := hD.form 0 (by omega) hkp
  obtain ⟨g1', m1, f1⟩ := hD.form 1 (by omega) hkp
  obtain ⟨g2', m2, f2⟩ := hD.form 2 (by omega) h1
  obtain ⟨g3', m3, f3⟩ := hD.form 3 (by omega) h1
  rw [f0, f1, f2, f3] at e3
  exact ⟨K, g0, m0, g1', m1, g2', m2, g3', m3, f0, f1, f2, f3, e1, e2, e3⟩

set_option maxRecDepth 100000 in
set_option maxHeartbeats 1000000 in
theorem calls_long (e sl st : Int) (a : Option Addr) (len cap : Nat) (w : World) (h : 100 < len) (hl : len ≤ maxLen) :
    Calls Tryz.prog 3 #[mb e sl st, .slice a len cap] w fun e w' => e = .returned (.bool true) ∧ Below w.heap.size w w' := by
  have hb : ∀ x : Obj, Below w.heap.size w (w.alloc x) := fun x => (Below.refl _ _).alloc (Nat.le_refl _) _
  unfold maxLen at hl
  have h1 : (100 : Int) < (len : Int) := by omega
  go_enter Tryz.func3, Tryz.ntmps3
  go_wp2_with (fail)
  refine (alive_any _).mono ?_
  rintro e w1 ⟨rfl, hb1⟩
  have hB1 := (hb _).trans (hb1.mono (hb _).size)
  go_wp2_with (fail)
  go_ret
  exact ⟨rfl, hB1⟩

/-- A member's cells in block p. -/
structure Mbx (w : World) (p : Nat) (e sl st : Int) : Prop where
  lt : p < w.heap.size
  c0 : w.cell? ⟨p, 0, none⟩ = some (.int .i64 e)
  c1 : w.cell? ⟨p, 1, none⟩ = some (.int .i64 sl)
  c2 : w.cell? ⟨p, 2, none⟩ = some (.int .i64 st)
theorem Mbx.next {w w' : World} {p : Nat} {e sl st : Int} (h : Mbx w p e sl st) (hb : Below w.heap.size w w') : Mbx w' p e sl st :=
  ⟨Nat.lt_of_lt_of_le h.lt hb.size, (hb.cell (p := ⟨p, 0, none⟩) h.lt).trans h.c0, (hb.cell (p := ⟨p, 1, none⟩) h.lt).trans h.c1, (hb.cell (p := ⟨p, 2, none⟩) h.lt).trans h.c2⟩

set_option maxRecDepth 100000 in
set_option maxHeartbeats 4000000 in
theorem calls_in (e sl st : Int) (a : Option Addr) (len cap : Nat) (f : Nat → Cb) (w : World) (hc : CbsAt w a len f) (h : len ≤ 100) :
    Calls Tryz.prog 3 #[mb e sl st, .slice a len cap] w fun e w' => e = .returned (.bool true) ∧ Below w.heap.size w w' := by
  obtain ⟨w0, hw0⟩ : ∃ w0, w0 = w.alloc (.cells #[.int .i64 e, .int .i64 sl, .int .i64 st] 23) := ⟨_, rfl⟩
  have HB0 : Hid (Below w.heap.size w w0) := by rw [hw0]; exact (Below.refl _ _).alloc (Nat.le_refl _) _
  have HX0 : Hid (Mbx w0 w.heap.size e sl st) := by rw [hw0]; refine ⟨by simp, ?_, ?_, ?_⟩ <;> simp
  have HCS := Lib.hid hc
  have h1 : decide ((100 : Int) < (len : Int)) = false := decide_eq_false (by omega)
  have h2 : decide (100 < len) = false := decide_eq_false (by omega)
  clear hc
  go_enter Tryz.func3, Tryz.ntmps3
  go_wp2_with (fail)
  rw [← hw0]
  clear hw0
  refine (alive_any _).mono ?_
  rintro e1 w1 ⟨rfl, hb1⟩
  have HX1 := Lib.hid (HX0.out.next hb1)
  have HB1 := Lib.hid (HB0.out.trans (hb1.mono HB0.out.size))
  clear hb1 HX0 HB0
  go_wp2_with (fail)
  clear h1 h2
  go_loopw [5, 6] (fun u v wr => ∃ m i : Nat, i ≤ len ∧ m ≤ 20000 ∧ u = .int .i64 m ∧ v = .int .i64 i ∧ (∀ j, j < i → (f j).n ≤ 20000) ∧ Mbx wr w.heap.size e sl st ∧ Below w.heap.size w wr) (fun _ v _ => len - (intOf v).toNat)
  case atStart => exact ⟨0, 0, by omega, by omega, rfl, rfl, (fun j hj => absurd hj (Nat.not_lt_zero _)), HX1.out, HB1.out⟩
  case round =>
    obtain ⟨m, i, i1, m1, rfl, rfl, hj, hx, hb⟩ := hrel
    have HJ := Lib.hid hj
    have HX := Lib.hid hx
    have HB := Lib.hid hb
    clear hj hx hb HX1 HB1
    by_cases hlt : i < len
    · rcases HCS.out with h0 | ⟨b, off, rfl, hlb, hcall⟩
      · omega
      have hci := (hcall i hlt).next hlb HB.out
      have k3 := hci.k3
      have b3 := hci.few
      unfold reachBytes at b3
      obtain ⟨x, hx⟩ : ∃ x, x = (f i).n := ⟨_, rfl⟩
      rw [← hx] at k3 b3
      have HXX := Lib.hid hx
      have i0 : (0 : Int) ≤ (i : Int) := by omega
      have i2 : (i : Int) < (len : Int) := by omega
      have e2 : IntKind.i64.wrap ((m : Int) + (x : Int)) = (m : Int) + (x : Int) := IntWalk.i64_in _ (by omega)
      clear hx hcall hci
      by_cases hs : m + x ≤ 20000
      · have g1 : decide ((20000 : Int) < (m : Int) + (x : Int)) = false := decide_eq_false (by omega)
        clear b3
        go_wp2_with (fail)
        go_roundw
        case rel =>
          refine ⟨m + x, i + 1, by omega, hs, by go_num, by go_num, fun j hj => ?_, HX.out, HB.out⟩
          by_cases ej : j = i
          · subst ej
            rw [← HXX.out]
            omega
          · exact HJ.out j (by omega)
        case measure => simp [intOf]; omega
      · have g1 : (20000 : Int) < (m : Int) + (x : Int) := by omega
        clear b3
        go_wp2_with (fail)
        go_ret
        exact ⟨rfl, HB.out⟩
    · obtain rfl : i = len := by omega
      clear hlt m1
      go_wp2_with (fail)
      refine (small_any wr).mono ?_
      rintro e2 w2 ⟨rfl, hb2⟩
      have HX2 := Lib.hid (HX.out.next hb2)
      have HB2 := Lib.hid (HB.out.trans (hb2.mono HB.out.size))
      clear hb2 HX HB
      go_wp2_with (fail)
      obtain ⟨g, hg⟩ : ∃ g, g = w2.heap.size := ⟨_, rfl⟩
      obtain ⟨W3, hW3⟩ : ∃ W3, W3 = w2.alloc (.cells #[.int .i64 3, .int .i64 3, .int .i64 12] 30) := ⟨_, rfl⟩
      have HG3 : Hid (Mbx W3 g 3 3 12) := by rw [hW3, hg]; refine ⟨by simp, ?_, ?_, ?_⟩ <;> simp
      have hbA : Below w2.heap.size w2 W3 := by rw [hW3]; exact (Below.refl _ _).alloc (Nat.le_refl _) _
      have HX3 := Lib.hid (HX2.out.next hbA)
      have HB3 := Lib.hid (HB2.out.trans (hbA.mono HB2.out.size))
      rw [← hW3, ← hg]
      clear hW3 hg hbA HX2 HB2
      refine (sectors_all 3 3 12 W3).mono ?_
      rintro e3 w4 ⟨rfl, hb4⟩
      rw [sect_small]
      have HX4 := Lib.hid (HX3.out.next hb4)
      have HG4 := Lib.hid (HG3.out.next hb4)
      have HB4 := Lib.hid (HB3.out.trans (hb4.mono HB3.out.size))
      clear hb4 HX3 HG3 HB3
      go_wp2_with (fail)
      refine (new_ok 4 41 w4 (by omega) (by omega) (by omega) (by omega)).mono ?_
      rintro e4 w5 ⟨L, rfl, hr5, hM5, hb5⟩
      have HX5 := Lib.hid (HX4.out.next hb5)
      have hG5 := HG4.out.next hb5
      have HG5 := Lib.hid hG5
      have HB5 := Lib.hid (HB4.out.trans (hb5.mono HB4.out.size))
      have HR5 := Lib.hid hr5
      have HM5 : Hid (∀ k, L.M 4 k → w.heap.size ≤ k) := fun k hk => Nat.le_trans HB4.out.size (hM5 k hk)
      have x0 := hG5.c0
      have x1 := hG5.c1
      have x2 := hG5.c2
      clear hr5 hM5 hb5 HX4 HG4 HB4 hG5
      go_wp2_with (fail)
      refine (sectors_all 3 3 12 w5).mono ?_
      rintro e5 w6 ⟨rfl, hb6⟩
      rw [sect_small]
      have HX6 := Lib.hid (HX5.out.next hb6)
      have HG6 := Lib.hid (HG5.out.next hb6)
      have HB6 := Lib.hid (HB5.out.trans (hb6.mono HB5.out.size))
      have HR6 := Lib.hid (HR5.out.below hb6)
      clear hb6 HX5 HG5 HB5 HR5 x0 x1 x2
      go_wp2_with (fail)
      refine (rnew_ok 4 41 w6 (by omega) (by omega) (by omega) (by omega)).mono ?_
      rintro e6 w7 ⟨v, xs, rfl, hD, hx1, hx2, hx3, hb7⟩
      obtain ⟨K, g0, m0, g1, m1, g2, m2, g3, m3, f0, f1, f2, f3, hKp, hKlo, hboth⟩ := new_two (R := newRk 4 41) HR6.out hb7 hD hx1 hx2 hx3 (by omega) (by omega) (by omega) (by omega) (by omega) (by have := lt_of_block hD.row; omega)
      rw [f0, f1, f2, f3]
      obtain ⟨W8, hW8⟩ : ∃ W8, W8 = w7.alloc (.cells #[.int .i64 4, .int .i64 41, .slice (some ⟨g0, 0, none⟩) 164 m0, .slice (some ⟨g1, 0, none⟩) 164 m1, .slice (some ⟨g2, 0, none⟩) 4 m2, .slice (some ⟨g3, 0, none⟩) 4 m3, .int .i64 (-1), .bool false] 41 (0, 0)) := ⟨_, rfl⟩
      have HBO : Hid (Both W8 L K (newRk 4 41) (newRf 4 41)) := by rw [hW8]; exact hboth
      have hbA : Below w7.heap.size w7 W8 := by rw [hW8]; exact (Below.refl _ _).alloc (Nat.le_refl _) _
      have hb8 := hb7.trans (hbA.mono hb7.size)
      have hX8 := HX6.out.next hb8
      have hG8 := HG6.out.next hb8
      have HX8 := Lib.hid hX8
      have HG8 := Lib.hid hG8
      have HB8 := Lib.hid (HB6.out.trans (hb8.mono HB6.out.size))
      have HM8 : Hid (∀ k, L.M 4 k ∨ K.M k → w.heap.size ≤ k) := fun k hk => hk.elim (HM5.out k) fun x => Nat.le_trans HB6.out.size (hKlo k x)
      have x0 := hG8.c0
      have x1 := hG8.c1
      have x2 := hG8.c2
      have x3 := hX8.c0
      have x4 := hX8.c1
      have x5 := hX8.c2
      rw [hW8] at x0 x1 x2 x3 x4 x5
      have HKP := Lib.hid hKp
      clear hD hx1 hx2 hx3 hb7 hKlo hboth f0 f1 f2 f3 hbA hb8 hX8 hG8 HX6 HG6 HB6 HR6 HM5
      go_wp2_with (fail)
      rw [← hW8]
      rw [← hW8] at x0 x1 x2 x3 x4 x5
      rw [← hKp]
      clear hW8 hKp
      refine (open_any 3 3 12 e sl st HBO.out.rk).mono ?_
      rintro e7 w9 hop
      have hb9 := hop.1
      have hX9 := HX8.out.next hb9
      have hG9 := HG8.out.next hb9
      have HB9 := Lib.hid (HB8.out.trans (hb9.mono HB8.out.size))
      have HX9 := Lib.hid hX9
      have HOP := Lib.hid hop
      have HQ9 : Hid (w9.cell? ⟨K.p, 0, none⟩ = some (.int .i64 (4 : Nat)) ∧ w9.cell? ⟨K.p, 1, none⟩ = some (.int .i64 (41 : Nat))) := by
        obtain ⟨fl, fc, hx⟩ := HBO.out.rf.below hb9
        exact ⟨hx.c0, hx.c1⟩
      have HRO := Lib.hid (ropen_any (newRk 4 41) K.p 4 41 3 3 12 e sl st w9 rfl rfl HQ9.out)
      clear x0 x1 x2 x3 x4 x5 hb9 HX8 HG8 HQ9
      have x0 := hG9.c0
      have x1 := hG9.c1
      have x2 := hG9.c2
      have x3 := hX9.c0
      have x4 := hX9.c1
      have x5 := hX9.c2
      clear hG9 hX9
      have hok := openOk_small (R := newRk 4 41) rfl rfl sl st
      cases hmo : memOk 3 sl st with
      | false =>
        rw [hmo] at hok
        have hop' := hop.2
        rw [hok, if_neg Bool.false_ne_true] at hop'
        subst hop'
        have HOK := Lib.hid hok
        clear hmo hok hop
        go_wp2_with (fail)
        refine HRO.out.mono ?_
        rintro e8 w10 ⟨hb10, hop6⟩
        rw [HOK.out, if_neg Bool.false_ne_true] at hop6
        subst hop6
        have HB10 := Lib.hid (HB9.out.trans (hb10.mono HB9.out.size))
        clear hb10
        go_wp2_with (fail)
        go_ret
        exact ⟨rfl, HB10.out⟩
      | true =>
        rw [hmo] at hok
        have hop' := hop.2
        rw [hok, if_pos rfl] at hop'
        obtain ⟨b, rfl, _, _⟩ := hop'
        have HOK := Lib.hid hok
        clear hmo hok hop
        go_wp2_with (fail)
        refine HRO.out.mono ?_
        rintro e8 w10 hop6
        obtain ⟨M, b', y, hen, rfl, htwo⟩ := Two.opened (w0 := w) HBO.out (Rel.new 4 41) HM8.out HB8.out HOP.out hop6 HOK.out
        cases hen
        have HTW := Lib.hid htwo
        clear hop6 htwo HOP HRO HBO HB8 HB9 x0 x1 x2 x3 x4 x5
        obtain ⟨len, hlen⟩ : ∃ len, len = i := ⟨_, rfl⟩
        subst hlen
        go_wp2_with (fail)
        go_loopw [15] (fun v wr => ∃ (i : Nat) (R : Rk) (F : Rf) (B : Bn), i ≤ len ∧ v = .int .i64 i ∧ Two w M L K b y R F B wr ∧ B.d = ((3 : Nat) : Int)) (fun v _ => len - (intOf v).toNat)
        case atStart => exact ⟨0, _, _, _, by omega, rfl, HTW.out, rfl⟩
        case round =>
          obtain ⟨i, R, F, B, i1, rfl, htw, hd⟩ := hrel
          clear HTW
          by_cases hlt : i < len
          · rcases HCS.out with h0 | ⟨g', off, rfl, hlb, hcall⟩
            · omega
            have hci := (hcall i hlt).next hlb htw.st.bel
            have hfew := HJ.out i hlt
            have hlo : (f i).n = 0 ∨ ∀ b off, (f i).a = some ⟨b, off, none⟩ → ¬ M b := by
              rcases (hcall i hlt).pin.bys.place with h0 | ⟨b2, off2, e2, hl2, _⟩
              · exact .inl h0
              · exact .inr fun b' off' e' x => by
                  rw [e2] at e'
                  cases e'
                  have := htw.st.lo _ x
                  omega
            have htold := told_all (n := 3) (f i) htw hd (by omega) hci.pin hlo (by omega) hci.big
            have HTO := Lib.hid htold
            have k0 := hci.k0
            have k1 := hci.k1
            have k2 := hci.k2
            have k3 := hci.k3
            have k4 := hci.k4
            have k5 := hci.k5
            have k6 := hci.k6
            have i0 : (0 : Int) ≤ (i : Int) := by omega
            have i2 : (i : Int) < (len : Int) := by omega
            clear hci hfew hlo htold hcall htw
            go_wp2_with (fail)
            refine HTO.out.mono ?_
            rintro e9 w11 ⟨rfl, R', F', B', htw', hd'⟩
            have HT' := Lib.hid htw'
            clear HTO k0 k1 k2 k3 k4 k5 k6 htw'
            go_wp2_with (fail)
            go_roundw
            case rel => exact ⟨i + 1, R', F', B', by omega, by go_num, HT'.out, hd'⟩
            case measure => simp [intOf]; omega
          · have HB := Lib.hid htw.st.bel
            clear htw
            go_wp2_with (fail)
            go_ret
            exact ⟨rfl, HB.out⟩

theorem calls_all (e sl st : Int) (a : Option Addr) (len cap : Nat) (f : Nat → Cb) (w : World) (hc : CbsAt w a len f) (hl : len ≤ maxLen) :
    Calls Tryz.prog 3 #[mb e sl st, .slice a len cap] w fun e w' => e = .returned (.bool true) ∧ Below w.heap.size w w' := by
  by_cases h : len ≤ 100
  · exact calls_in e sl st a len cap f w hc h
  · exact calls_long e sl st a len cap w (by omega) hl

end Go.Proofs.YtoiidhpohghiaaaGreat
