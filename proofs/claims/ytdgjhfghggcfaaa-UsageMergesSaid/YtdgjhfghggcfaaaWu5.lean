/-
  The law UsageFree, walked.
-/
import Derived.Test.YtdgjhfghggcfaaaWu4
namespace Go.Proofs.Ytdgjhfghggcfaaa
open Go.RowKit Go.Maps
set_option linter.unusedVariables false

theorem frL_pre (ks ts : List Int) (s : Nat) : ∀ j, ∃ rest, frL (s + j) ks ts = frL s ks ts ++ rest
  | 0 => ⟨[], by simp⟩
  | j + 1 => by
    obtain ⟨r, hr⟩ := frL_pre ks ts s j
    rw [← Nat.add_assoc, frL_succ, hr, List.append_assoc]
    exact ⟨_, rfl⟩
theorem frL_at {s S : Nat} {ks ts : List Int} (hs : s < S) (h : num ks s = 0 ∧ ¬ (s : Int) ∈ ts) : (frL s ks ts).length < (frL S ks ts).length ∧ num (frL S ks ts) (frL s ks ts).length = (s : Int) := by
  obtain ⟨r, hr⟩ := frL_pre ks ts (s + 1) (S - (s + 1))
  rw [show s + 1 + (S - (s + 1)) = S by omega] at hr
  rw [hr, frL_succ, if_pos h]
  refine ⟨by simp, ?_⟩
  unfold num
  simp [List.getD]
set_option maxRecDepth 100000 in
set_option maxHeartbeats 16000000 in
theorem frees_any (d r s : Int) (a1 : Option Addr) (n1 c1 : Nat) (L : List Int) (a2 : Option Addr) (n2 c2 : Nat) (ts : List Int) (w : World) (hL : Ins w a1 n1 L) (hwf : ∀ z ∈ L, (Lit.int .i64 z).wf = true) (ht : Ins w a2 n2 ts) :
    Calls Try.prog 8 #[gv d r s, .slice a1 n1 c1, .slice a2 n2 c2] w fun e w' => e = .returned (.bool true) ∧ Below w.heap.size w w' := by
  have x1 := Bx.mk' w d r s 23
  have hb1 : Below w.heap.size w (w.alloc (.cells #[.int .i64 d, .int .i64 r, .int .i64 s] 23 (0, 0))) := (Below.refl _ _).alloc (Nat.le_refl _) _
  have HL := Lib.hid hL
  have HWF := Lib.hid hwf
  have HX1 := Lib.hid x1
  have HB1 := Lib.hid hb1
  have HT := Lib.hid ht
  clear ht
  clear hL hwf x1 hb1
  go_enter Try.func8, Try.ntmps8
  go_wp2_with (fail)
  refine (alive_any _).mono ?_
  rintro e w2 ⟨rfl, hb⟩
  have x2 := HX1.out.next hb
  have HB2 := Lib.hid (HB1.out.trans (hb.mono HB1.out.size))
  have HX2 := Lib.hid x2
  clear hb x2
  by_cases hn1 : n1 ≤ 5000
  · have hn1' : decide ((5000 : Int) < (n1 : Int)) = false := decide_eq_false (by omega)
    by_cases hn2 : n2 ≤ 100
    · have hn2' : decide ((100 : Int) < (n2 : Int)) = false := decide_eq_false (by omega)
      have y0 := HX2.out.c0
      have y1 := HX2.out.c1
      have y2 := HX2.out.c2
      have hcn := count_any d r s a1 n1 c1 L w2 (HL.out.below (Nat.le_refl _) HB2.out) (by omega) HWF.out
      go_wp2_with (fail)
      refine hcn.mono ?_
      clear hcn
      rintro e w3 ⟨l, ok, ⟨a3, c3, he, hi3, hlo3, hb⟩, hc3⟩
      have x3 := HX2.out.next hb
      have HB3 := Lib.hid (HB2.out.trans (hb.mono HB2.out.size))
      have HX3 := Lib.hid x3
      clear y0 y1 y2 x3
      by_cases hok : Rt d r s ∧ AdOk (s.toNat * (PL d r).toNat) L
      · obtain ⟨hR, hA⟩ := hok
        obtain ⟨p1, p2, _, _⟩ := PL_bd hR.d1 hR.d2 hR.r1 hR.r2
        have s1 := hR.s1
        have s2 := hR.s2
        obtain ⟨rfl, rfl⟩ := hc3.1 hR hA
        obtain ⟨S, rfl⟩ := Int.eq_ofNat_of_zero_le (show 0 ≤ s by omega)
        obtain ⟨D, hD⟩ := Int.eq_ofNat_of_zero_le (show 0 ≤ PL d r by omega)
        rw [Int.toNat_natCast, hD, Int.toNat_natCast] at hi3 hA
        have he' : e = .returned (.tuple #[.slice a3 S c3, .bool true]) := by rw [he, Int.toNat_natCast, hD, Int.toNat_natCast, cL_len]
        rw [cL_len] at hi3
        subst he'
        rw [hD] at p1 p2
        have HD := Lib.hid hD
        have HR := Lib.hid hR
        have HA := Lib.hid hA
        have HI3 := Lib.hid hi3
        have HNN : Hid (noneNeg (cL S D L)) := Lib.hid fun k hk => by
          unfold cL at hk
          obtain ⟨j, _, rfl⟩ := List.mem_map.1 hk
          omega
        clear hc3 he hb hR hA hi3 hlo3 hD
        have y0 := HX3.out.c0
        have y1 := HX3.out.c1
        have y2 := HX3.out.c2
        have hfr := free_any d r S a3 a2 S c3 n2 c2 (cL S D L) ts w3 HI3.out (HT.out.below (Nat.le_refl _) HB3.out) (by omega) (by omega)
        go_wp2_with (fail)
        refine hfr.mono ?_
        clear hfr
        rintro e w4 ⟨l, ⟨a4, c4, rfl, hi4, hb⟩, hfr⟩
        have hl := hfr.2 HR.out
        rw [Int.toNat_natCast] at hl
        have HB4 := Lib.hid (HB3.out.trans (hb.mono HB3.out.size))
        have x4 := HX3.out.next hb
        have hi3 := HI3.out.next hb
        have ht4 := HT.out.below (Nat.le_refl _) HB4.out
        have HTL := Lib.hid ht4.len
        obtain ⟨ks, hks⟩ : ∃ ks, ks = cL S D L := ⟨_, rfl⟩
        rw [← hks] at hi3 hl
        have HLE := Lib.hid (show (frL S ks ts).length = l.length by rw [hl])
        have hlb : l.length ≤ 64 := by rw [hl]; have := frL_len S ks ts; omega
        have HPF : Hid (∀ s, s < S → num ks s = 0 ∧ ¬ (s : Int) ∈ ts → (frL s ks ts).length < l.length ∧ num l (frL s ks ts).length = (s : Int)) := Lib.hid fun s hs hc => by rw [hl]; exact frL_at hs hc
        have y2' := x4.c2
        clear hks hl hfr hb y0 y1 y2 x4
        go_wp2_with (fail)
        go_loopw [10, 11, 12, 13] (fun u v _ _ wr => ∃ s : Nat, s ≤ S ∧ v = .int .i64 s ∧ u = .int .i64 ((frL s ks ts).length : Nat) ∧ wr = w4) (fun _ v _ _ _ => S - (RowKit.intOf v).toNat)
        case atStart => exact ⟨0, by omega, rfl, rfl, rfl⟩
        case round =>
          obtain ⟨s, hsS, rfl, rfl, rfl⟩ := hrel
          have hfl := frL_len s ks ts
          have k0 : (0 : Int) ≤ (s : Int) := by omega
          by_cases hlt : s < S
          · have k1 : (s : Int) < (S : Int) := by omega
            obtain ⟨b, off, rfl, hbl, hc⟩ := hi3.at (by omega)
            have y := hc s hlt
            have HST := Lib.hid (frL_succ s ks ts)
            have HP := Lib.hid (HPF.out s hlt)
            have HI4 := Lib.hid hi4
            have HI3' := Lib.hid hc
            have HT4 := Lib.hid ht4
            have hinit : (num ks s == 0) = decide (num ks s = 0 ∧ ¬ (s : Int) ∈ ts.take 0) := by
              rw [List.take_zero]
              by_cases h0 : num ks s = 0 <;> simp [h0]
            obtain ⟨fk, hfk⟩ : ∃ fk, fk = (frL s ks ts).length := ⟨_, rfl⟩
            rw [← hfk] at hfl HP ⊢
            have HFK := Lib.hid hfk
            have HIN := Lib.hid hinit
            clear hc hi3 ht4 hinit hfk hi4
            go_wp2_with (fail)
            go_loopw [12, 13] (fun u v wi => ∃ i : Nat, i ≤ n2 ∧ v = .int .i64 i ∧ u = .bool (decide (num ks s = 0 ∧ ¬ (s : Int) ∈ ts.take i)) ∧ wi = wr) (fun _ v _ => n2 - (RowKit.intOf v).toNat)
            case atStart => exact ⟨0, by omega, rfl, by rw [HIN.out], rfl⟩
            case round =>
              obtain ⟨i, hi, rfl, rfl, rfl⟩ := hrel
              have i0 : (0 : Int) ≤ (i : Int) := by omega
              by_cases hit : i < n2
              · have i1 : (i : Int) < (n2 : Int) := by omega
                have HTK := Lib.hid (take_num (ks := ts) (k := i) (by have := HTL.out; omega))
                obtain ⟨b2, off2, rfl, hbl2, hc2⟩ := HT4.out.at (by omega)
                have z := hc2 i hit
                clear hc2
                by_cases hc : num ks s = 0 ∧ ¬ (s : Int) ∈ ts.take i
                · rw [decide_eq_true hc]
                  have HC := Lib.hid hc
                  clear hc
                  by_cases hz : num ts i = (s : Int)
                  · have hz' : (num ts i != (s : Int)) = false := by simp [hz]
                    have HN : Hid (decide (num ks s = 0 ∧ ¬ (s : Int) ∈ ts.take (i + 1)) = false) := Lib.hid (decide_eq_false (by rw [HTK.out, hz]; simp))
                    clear hz
                    go_wp2_with (fail)
                    go_roundw
                    case rel => exact ⟨i + 1, by omega, by go_num, by rw [HN.out], by first | rfl | trivial⟩
                    case measure => simp [RowKit.intOf]; omega
                  · have hz' : (num ts i != (s : Int)) = true := by simp [hz]
                    have HN : Hid (decide (num ks s = 0 ∧ ¬ (s : Int) ∈ ts.take (i + 1)) = true) := Lib.hid (decide_eq_true (by
                      rw [HTK.out, List.mem_append, List.mem_singleton]
                      exact ⟨HC.out.1, fun x => x.elim HC.out.2 (fun e => hz e.symm)⟩))
                    clear hz
                    go_wp2_with (fail)
                    go_roundw
                    case rel => exact ⟨i + 1, by omega, by go_num, by rw [HN.out], by first | rfl | trivial⟩
                    case measure => simp [RowKit.intOf]; omega
                · rw [decide_eq_false hc]
                  have HN : Hid (decide (num ks s = 0 ∧ ¬ (s : Int) ∈ ts.take (i + 1)) = false) := Lib.hid (decide_eq_false (by
                    rw [HTK.out, List.mem_append]
                    exact fun x => hc ⟨x.1, fun e => x.2 (.inl e)⟩))
                  clear hc
                  go_wp2_with (fail)
                  go_roundw
                  case rel => exact ⟨i + 1, by omega, by go_num, by rw [HN.out], by first | rfl | trivial⟩
                  case measure => simp [RowKit.intOf]; omega
              · obtain rfl : i = n2 := by omega
                have i1 : decide ((i : Int) < (i : Int)) = false := decide_eq_false (by omega)
                have hfull : ts.take i = ts := List.take_of_length_le (by have := HTL.out; omega)
                rw [hfull]
                clear hfull
                by_cases hc : num ks s = 0 ∧ ¬ (s : Int) ∈ ts
                · obtain ⟨hp1, hp2⟩ := HP.out hc
                  have HN : Hid (((frL (s + 1) ks ts).length : Nat) = fk + 1) := Lib.hid (by rw [HST.out, if_pos hc, List.length_append, ← HFK.out]; rfl)
                  rw [decide_eq_true hc]
                  have f0 : (0 : Int) ≤ (fk : Int) := by omega
                  have f1 : (fk : Int) < (l.length : Int) := by omega
                  have f2 : decide ((l.length : Int) ≤ (fk : Int)) = false := decide_eq_false (by omega)
                  obtain ⟨b4, off4, rfl, hbl4, hc4⟩ := HI4.out.at (by omega)
                  have z := hc4 fk hp1
                  rw [hp2] at z
                  clear hc hp1 hp2 hc4
                  go_wp2_with (fail)
                  go_roundw
                  case rel => exact ⟨s + 1, by omega, by go_num, by rw [HN.out]; go_num, by first | rfl | trivial⟩
                  case measure => simp [RowKit.intOf]; omega
                · have HN : Hid ((frL (s + 1) ks ts).length = fk) := Lib.hid (by rw [HST.out, if_neg hc, List.append_nil, ← HFK.out])
                  rw [decide_eq_false hc]
                  clear hc
                  go_wp2_with (fail)
                  go_roundw
                  case rel => exact ⟨s + 1, by omega, by go_num, by rw [HN.out], by first | rfl | trivial⟩
                  case measure => simp [RowKit.intOf]; omega
          · obtain rfl : s = S := by omega
            have k1 : decide ((s : Int) < (s : Int)) = false := decide_eq_false (by omega)
            rw [HLE.out]
            have he : ((l.length : Int) == (l.length : Int)) = true := by simp
            clear hi3 ht4 hi4
            go_wp2_with (fail)
            go_ret
            exact ⟨rfl, HB4.out⟩
      · obtain ⟨rfl, rfl⟩ := hc3.2 hok
        have he' : e = .returned (.tuple #[.slice a3 0 c3, .bool false]) := he
        subst he'
        clear hok he hi3 hlo3 hb hc3
        go_wp2_with (fail)
        go_ret
        exact ⟨rfl, HB3.out⟩
    · have hn2' : decide ((100 : Int) < (n2 : Int)) = true := decide_eq_true (by omega)
      go_wp2_with (fail)
      go_ret
      exact ⟨rfl, HB2.out⟩
  · have hn1' : decide ((5000 : Int) < (n1 : Int)) = true := decide_eq_true (by omega)
    go_wp2_with (fail)
    go_ret
    exact ⟨rfl, HB2.out⟩
end Go.Proofs.Ytdgjhfghggcfaaa
