/-
  The segments that are free: the document's.
-/
import Derived.Test.YtdgjhfghggcfaaaRu1
namespace Go.Proofs.Ytdgjhfghggcfaaa
open Go.RowKit
set_option linter.unusedVariables false

/-- A list of numbers that a call answers. -/
def RetL (w0 : World) (l : List Int) (e : Ending) (w' : World) : Prop := ∃ a c, e = .returned (.slice a l.length c) ∧ Ins w' a l.length l ∧ Below w0.heap.size w0 w'
theorem RetL.own {w0 w' : World} {B : Nat} {v : Value} {n : Nat} {l : List Int} (h : OwnI w' B v n l) (hn : n = l.length) (hb : Below w0.heap.size w0 w') : RetL w0 l (.returned v) w' := by
  obtain ⟨a, c, rfl, hi, _⟩ := h.ins
  subst hn
  exact ⟨a, c, rfl, hi, hb⟩
theorem RetL.nil (w0 : World) {w' : World} (hb : Below w0.heap.size w0 w') : RetL w0 [] (.returned (.slice none 0 0)) w' := ⟨_, _, rfl, ⟨rfl, .inl rfl⟩, hb⟩
/-- The free segments of a geometry. -/
def FreeR (d r s : Int) (ks ts l : List Int) : Prop := (¬ Rt d r s → l = []) ∧ (Rt d r s → l = frL s.toNat ks ts)
theorem FreeR.one {d r s : Int} {ks ts l m : List Int} (h : FreeR d r s ks ts l) (k : FreeR d r s ks ts m) : l = m := by
  by_cases hr : Rt d r s
  · rw [h.2 hr, k.2 hr]
  · rw [h.1 hr, k.1 hr]
theorem ownI_lit (B : Nat) (w : World) (hB : B ≤ w.heap.size) : OwnI (w.alloc (.cells #[] 3)) B (.slice (some ⟨w.heap.size, 0, none⟩) 0 0) 0 [] := World.ownsRow_lit w #[] 0 hB (Nat.zero_le _) rfl
set_option maxHeartbeats 2000000 in
theorem rfree_out (d r s : Int) (a1 a2 : Option Addr) (n1 c1 n2 c2 : Nat) (w : World) (h : ¬ Rt d r s) :
    Calls Try.prog 16 #[gv d r s, .slice a1 n1 c1, .slice a2 n2 c2] w (RetL w []) := by
  have x1 := Bx.mk' w d r s 23
  have hb1 : Below w.heap.size w (w.alloc (.cells #[.int .i64 d, .int .i64 r, .int .i64 s] 23 (0, 0))) := (Below.refl _ _).alloc (Nat.le_refl _) _
  have HO := Lib.hid (ownI_lit w.heap.size (w.alloc (.cells #[.int .i64 d, .int .i64 r, .int .i64 s] 23 (0, 0))) (by simp))
  have hb2 := hb1.alloc (by simp) (.cells #[] 3)
  obtain ⟨X, hX⟩ : ∃ X, X = (w.alloc (.cells #[.int .i64 d, .int .i64 r, .int .i64 s] 23 (0, 0))).alloc (.cells #[] 3) := ⟨_, rfl⟩
  have x2 := x1.alloc (.cells #[] 3)
  have HR : Hid (RetL w [] (.returned (.slice (some ⟨w.heap.size + 1, 0, none⟩) 0 0)) X) := Lib.hid (RetL.own (by have := HO.out; rw [← hX] at this; simpa using this) rfl (by rw [hX]; exact hb2))
  rw [← hX] at x2 hb2
  have y0 := x2.c0
  have y1 := x2.c1
  have y2 := x2.c2
  have HB := Lib.hid hb2
  have hno : Hid (∀ w, Calls Try.prog 25 #[gv d r s] w fun e w' => e = .returned (.bool false) ∧ Below w.heap.size w w') := Lib.hid fun w => rright_no d r s w h
  clear x1 hb1 hb2 x2 HO
  go_enter Try.func16, Try.ntmps16
  go_wp2_with (fail)
  rw [← hX]
  clear hX
  by_cases h0 : 0 < s
  · refine wp_loop_rounds 1 ?_
    rw [rounds_succ]
    go_wp2_with (fail)
    refine (hno.out _).mono ?_
    rintro e w2 ⟨rfl, hb⟩
    have HR2 : Hid (RetL w [] (.returned (.slice (some ⟨w.heap.size + 1, 0, none⟩) 0 0)) w2) := by
      obtain ⟨a, c, e, hi, hb'⟩ := HR.out
      exact Lib.hid ⟨a, c, e, hi.next hb, hb'.trans (hb.mono hb'.size)⟩
    clear hb HR
    go_wp2_with (fail)
    go_ret
    exact HR2.out
  · have h0' : decide (0 < s) = false := decide_eq_false h0
    refine wp_loop_rounds 1 ?_
    rw [rounds_succ]
    go_wp2_with (fail)
    go_ret
    exact HR.out

set_option maxRecDepth 100000 in
set_option maxHeartbeats 4000000 in
theorem rfree_in (d r s : Int) (a1 a2 : Option Addr) (n1 c1 n2 c2 : Nat) (ks ts : List Int) (w : World) (h : Rt d r s) (hk : Ins w a1 n1 ks) (ht : Ins w a2 n2 ts) (hn1 : n1 ≤ 1000000000000) (hn2 : n2 ≤ 1000000000000) :
    Calls Try.prog 16 #[gv d r s, .slice a1 n1 c1, .slice a2 n2 c2] w (RetL w (frL s.toNat ks ts)) := by
  have x1 := Bx.mk' w d r s 23
  have s1 := h.s1
  have s2 := h.s2
  obtain ⟨S, rfl⟩ := Int.eq_ofNat_of_zero_le (show 0 ≤ s by omega)
  rw [Int.toNat_natCast]
  have hl := hk.len
  have hyes : Hid (∀ w, Calls Try.prog 25 #[gv d r S] w fun e w' => e = .returned (.bool true) ∧ Below w.heap.size w w') := Lib.hid fun w => rright_yes d r S w h
  have ham : Hid (∀ (z : Int) w, Ins w a2 n2 ts → Calls Try.prog 28 #[.slice a2 n2 c2, .int .i64 z] w fun e w' => e = .returned (.bool (decide (z ∈ ts))) ∧ w' = w) := Lib.hid fun z w hi => among_any a2 n2 c2 ts z w hi hn2
  have hO := ownI_lit (w.heap.size + 1) (w.alloc (.cells #[.int .i64 d, .int .i64 r, .int .i64 S] 23 (0, 0))) (by simp)
  have hb1 : Below w.heap.size w (w.alloc (.cells #[.int .i64 d, .int .i64 r, .int .i64 S] 23 (0, 0))) := (Below.refl _ _).alloc (Nat.le_refl _) _
  have hb2 := hb1.alloc (by simp) (.cells #[] 3)
  obtain ⟨X, hX⟩ : ∃ X, X = (w.alloc (.cells #[.int .i64 d, .int .i64 r, .int .i64 S] 23 (0, 0))).alloc (.cells #[] 3) := ⟨_, rfl⟩
  have x2 := x1.alloc (.cells #[] 3)
  rw [show (w.alloc (.cells #[.int .i64 d, .int .i64 r, .int .i64 S] 23 (0, 0))).heap.size = w.heap.size + 1 by simp] at hO
  rw [← hX] at x2 hb2 hO
  have HK := Lib.hid hk
  have HT := Lib.hid ht
  have hXs : w.heap.size + 1 < X.heap.size := by rw [hX]; simp
  have HX := Lib.hid x2
  have HB := Lib.hid hb2
  have HO := Lib.hid hO
  clear x1 hb1 hb2 x2 hO hk ht
  go_enter Try.func16, Try.ntmps16
  go_wp2_with (fail)
  rw [← hX]
  clear hX
  go_loopw [7, 8] (fun u v wr => ∃ k : Nat, k ≤ S ∧ v = .int .i64 k ∧ OwnI wr (w.heap.size + 1) u (frL k ks ts).length (frL k ks ts) ∧ Below (w.heap.size + 1) X wr) (fun _ v _ => S - (RowKit.intOf v).toNat)
  case atStart => exact ⟨0, by omega, rfl, HO.out, Below.refl _ _⟩
  case round =>
    obtain ⟨k, hkS, rfl, ho, hb⟩ := hrel
    have y0 := (hb.cell (p := ⟨w.heap.size, 0, none⟩) (by show w.heap.size < _; omega)).trans HX.out.c0
    have y1 := (hb.cell (p := ⟨w.heap.size, 1, none⟩) (by show w.heap.size < _; omega)).trans HX.out.c1
    have y2 := (hb.cell (p := ⟨w.heap.size, 2, none⟩) (by show w.heap.size < _; omega)).trans HX.out.c2
    have hsz : w.heap.size + 1 < wr.heap.size := Nat.lt_of_lt_of_le hXs hb.size
    have hfl := frL_len k ks ts
    have k0 : (0 : Int) ≤ (k : Int) := by omega
    by_cases hlt : k < S
    · have k1 : (k : Int) < (S : Int) := by omega
      have hstep : Hid (frL (k + 1) ks ts = frL k ks ts ++ if num ks k = 0 ∧ ¬ (k : Int) ∈ ts then [(k : Int)] else []) := Lib.hid (frL_succ k ks ts)
      have HOW := Lib.hid ho
      have HBW := Lib.hid hb
      clear ho hb
      go_wp2_with (fail)
      refine (hyes.out _).mono ?_
      rintro e w3 ⟨rfl, hb3⟩
      have HO3 := Lib.hid (HOW.out.next hb3)
      have hB3 := HBW.out.trans (hb3.mono (Nat.le_of_lt hsz))
      have HB3 := Lib.hid hB3
      have hB4 := HB.out.trans (hB3.mono (Nat.le_succ _))
      have hk3 := HK.out.below (Nat.le_refl _) hB4
      have ht3 := Lib.hid (HT.out.below (Nat.le_refl _) hB4)
      have hs3 := hb3.size
      clear hb3 hB3 hB4 HOW HBW y0 y1 y2
      by_cases hn : k < n1
      · obtain ⟨b, off, rfl, hbl, hc⟩ := hk3.at (by omega)
        have y := hc k hn
        have k2 : (k : Int) < (n1 : Int) := by omega
        clear hc hk3
        by_cases hz : num ks k = 0
        · have HZ := Lib.hid hz
          rw [hz] at y
          clear hz
          go_wp2_with (fail)
          refine (ham.out (k : Int) _ ht3.out).mono ?_
          rintro e w4 ⟨rfl, rfl⟩
          by_cases hin : (k : Int) ∈ ts
          · have hd : decide ((k : Int) ∈ ts) = true := decide_eq_true hin
            rw [hd]
            have HIN := Lib.hid hin
            clear hin hd
            go_wp2_with (fail)
            go_roundw
            case rel => exact ⟨k + 1, by omega, by go_num, by rw [hstep.out, if_neg (fun x => x.2 HIN.out), List.append_nil]; exact HO3.out, HB3.out⟩
            case measure => simp [RowKit.intOf]; omega
          · have hd : decide ((k : Int) ∈ ts) = false := decide_eq_false hin
            rw [hd]
            have HIN := Lib.hid hin
            clear hin hd
            have HO4 := Lib.hid (HO3.out.alloc (.cells #[.int .i64 (k : Int)] 3))
            have HB4 := Lib.hid (HB3.out.alloc (by omega) (.cells #[.int .i64 (k : Int)] 3))
            have hsz4 : w.heap.size + 1 ≤ w4.heap.size + 1 := by omega
            go_wp2_with (at_builtin; go_must (refine wpList_api rfl (.tmp 37) (.tmp 39) rfl (w.heap.size + 1) _ (frL k ks ts).length (frL k ks ts) rfl HO4.out w4.heap.size (k : Int) rfl (by simp) (by omega) (by simp; omega) X HB4.out ?_); intro v2 w5 ho5 hb5)
            go_roundw
            case rel => exact ⟨k + 1, by omega, by go_num, by rw [hstep.out, if_pos ⟨HZ.out, HIN.out⟩, List.length_append, List.length_singleton]; exact ho5, hb5⟩
            case measure => simp [RowKit.intOf]; omega
        · have hz' : (num ks k == 0) = false := by simp [hz]
          have HZ := Lib.hid hz
          clear hz
          go_wp2_with (fail)
          go_roundw
          case rel => exact ⟨k + 1, by omega, by go_num, by rw [hstep.out, if_neg (fun x => HZ.out x.1), List.append_nil]; exact HO3.out, HB3.out⟩
          case measure => simp [RowKit.intOf]; omega
      · have HZ : Hid (num ks k = 0) := Lib.hid (num_out (by omega))
        have k2 : (n1 : Int) ≤ (k : Int) := by omega
        clear hk3
        go_wp2_with (fail)
        refine (ham.out (k : Int) _ ht3.out).mono ?_
        rintro e w4 ⟨rfl, rfl⟩
        by_cases hin : (k : Int) ∈ ts
        · have hd : decide ((k : Int) ∈ ts) = true := decide_eq_true hin
          rw [hd]
          have HIN := Lib.hid hin
          clear hin hd
          go_wp2_with (fail)
          go_roundw
          case rel => exact ⟨k + 1, by omega, by go_num, by rw [hstep.out, if_neg (fun x => x.2 HIN.out), List.append_nil]; exact HO3.out, HB3.out⟩
          case measure => simp [RowKit.intOf]; omega
        · have hd : decide ((k : Int) ∈ ts) = false := decide_eq_false hin
          rw [hd]
          have HIN := Lib.hid hin
          clear hin hd
          have HO4 := Lib.hid (HO3.out.alloc (.cells #[.int .i64 (k : Int)] 3))
          have HB4 := Lib.hid (HB3.out.alloc (by omega) (.cells #[.int .i64 (k : Int)] 3))
          have hsz4 : w.heap.size + 1 ≤ w4.heap.size + 1 := by omega
          go_wp2_with (at_builtin; go_must (refine wpList_api rfl (.tmp 37) (.tmp 39) rfl (w.heap.size + 1) _ (frL k ks ts).length (frL k ks ts) rfl HO4.out w4.heap.size (k : Int) rfl (by simp) (by omega) (by simp; omega) X HB4.out ?_); intro v2 w5 ho5 hb5)
          go_roundw
          case rel => exact ⟨k + 1, by omega, by go_num, by rw [hstep.out, if_pos ⟨HZ.out, HIN.out⟩, List.length_append, List.length_singleton]; exact ho5, hb5⟩
          case measure => simp [RowKit.intOf]; omega
    · obtain rfl : k = S := by omega
      have hk1 : decide ((k : Int) < (k : Int)) = false := decide_eq_false (by omega)
      have HR : Hid (RetL w (frL k ks ts) (.returned u7) wr) := Lib.hid (RetL.own ho rfl (HB.out.trans (hb.mono (Nat.le_succ _))))
      clear ho hb
      go_wp2_with (fail)
      go_ret
      exact HR.out
end Go.Proofs.Ytdgjhfghggcfaaa
