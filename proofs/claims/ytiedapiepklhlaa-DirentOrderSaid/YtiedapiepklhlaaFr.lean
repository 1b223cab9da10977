/-
  front: the first entry of bytes, by contract.
-/
import Derived.Test.YtiedapiepklhlaaDe
namespace Go.Proofs.Ytiedapiepklhlaa
open Go.RowKit
set_option linter.unusedVariables false
set_option linter.unusedSimpArgs false

/-- A part of a slice of bytes, as a text. -/
theorem conv_part {w : World} {b off n c : Nat} {zs : List Int} (h : Bys w (some ⟨b, off, none⟩) n zs) : (convert 23 9 (.slice (some ⟨b, off, none⟩) n c)).run Try.prog w = .ok (.string (strOfNums zs)) w := by
  refine run_convert_bytes_arg w _ _ Try.underlying23 Try.underlying5 b off n c zs h.len (fun i hi => ?_) _ Try.underlying9
  rcases h.place with h0 | ⟨b', off', e, _, hc⟩
  · omega
  · cases e
    exact hc i hi
def frE (zs : List Int) : En := if fOk zs then fEn zs else ⟨⟨#[]⟩, 0⟩
def frS (zs : List Int) : Int := if fOk zs then (fSz zs : Int) else 0
/-- What front answers. -/
def FrPost (w : World) (zs : List Int) (e : Ending) (w' : World) : Prop := e = .returned (.tuple #[env (frE zs), .int .i64 (frS zs), .bool (fOk zs)]) ∧ Below w.heap.size w w'
set_option maxHeartbeats 4000000 in
theorem front_any (a : Option Addr) (n c : Nat) (zs : List Int) (w : World) (h : Bys w a n zs) (hn : n ≤ 1000000) (hq : n ≤ c) (hm : c ≤ 9223372036854775807) :
    Calls Try.prog 28 #[.slice a n c] w (FrPost w zs) := by
  have hl := h.len
  have hb0 : Below w.heap.size w (w.alloc (.cells #[.string ByteArray.empty, .int .i64 0] 36 (0, 0))) := (Below.refl _ _).alloc (Nat.le_refl _) _
  have hg1 := get_fun a n c 0 2 zs (w.alloc (.cells #[.string ByteArray.empty, .int .i64 0] 36 (0, 0))) (h.next hb0) (by omega)
  have hg2 := get_fun a n c 2 1 zs (w.alloc (.cells #[.string ByteArray.empty, .int .i64 0] 36 (0, 0))) (h.next hb0) (by omega)
  have HB := Lib.hid hb0
  have HH := Lib.hid h
  clear h
  by_cases h3 : 3 ≤ n
  · have o1 : getO n 0 2 = true := by unfold getO; rw [decide_eq_true_eq]; omega
    have o2 : getO n 2 1 = true := by unfold getO; rw [decide_eq_true_eq]; omega
    have v1 : getV n zs 0 2 = byt zs 0 + 256 * byt zs 1 := by
      unfold getV; rw [if_pos o1]
      show byt zs 0 + 256 * (byt zs 1 + 256 * 0) = _
      omega
    have v2 : getV n zs 2 1 = (fLen zs : Int) := by
      unfold getV; rw [if_pos o2]
      have := byt_bd HH.out.small 2
      show byt zs 2 + 256 * 0 = _
      unfold fLen
      omega
    rw [o1, v1] at hg1
    rw [o2, v2] at hg2
    have hby := byt_bd HH.out.small 2
    have hfl : fLen zs ≤ 255 := by unfold fLen; omega
    obtain ⟨ino, hino⟩ : ∃ x, byt zs 0 + 256 * byt zs 1 = x := ⟨_, rfl⟩
    obtain ⟨ln, hln⟩ : ∃ x, fLen zs = x := ⟨_, rfl⟩
    rw [hino] at hg1
    rw [hln] at hg2 hfl
    have HI := Lib.hid hino
    have HL := Lib.hid hln
    have w1 : IntKind.i64.wrap ((n : Int) - 3) = (n : Int) - 3 := IntWalk.i64_in _ (by omega)
    clear o1 o2 v1 v2 hby hino hln hb0
    by_cases hfit : ln ≤ n - 3
    · have hok := Lib.hid (show fOk zs = true by unfold fOk; rw [HL.out, hl, decide_eq_true h3, decide_eq_true hfit]; rfl)
      have k1 : ¬ (n : Int) - 3 < (ln : Int) := by omega
      have w2 : IntKind.i64.wrap (3 + (ln : Int)) = ((3 + ln : Nat) : Int) := (IntWalk.i64_in _ (by omega)).trans (by omega)
      obtain ⟨b, off, rfl⟩ : ∃ b off, a = some ⟨b, off, none⟩ := by
        rcases HH.out.place with h0 | ⟨b, off, e, _, _⟩
        · omega
        · exact ⟨b, off, e⟩
      have HT := Lib.hid (show (fEn zs).s = strOfNums ((zs.drop 3).take ln) by unfold fEn; rw [HL.out])
      have k2 : (3 : Int) ≤ ((3 + ln : Nat) : Int) := by omega
      have k3 : ((3 + ln : Nat) : Int) ≤ (c : Int) := by omega
      have t1 : ((3 + ln : Nat) : Int).toNat = 3 + ln := by omega
      by_cases hc3 : c = 3
      · subst hc3
        obtain rfl : ln = 0 := by omega
        have hcv := conv_part (c := 0) (Bys.none (w := w.alloc (.cells #[.string ByteArray.empty, .int .i64 0] 36 (0, 0))) (some ⟨b, off, none⟩))
        go_enter Try.func28, Try.ntmps28
        go_wp2_with (fail)
        refine hg1.mono ?_
        rintro e w' ⟨rfl, rfl⟩
        clear hg1
        go_wp2_with (fail)
        refine hg2.mono ?_
        rintro e w' ⟨rfl, rfl⟩
        clear hg2
        go_wp2_with (fail)
        refine bodyPost_ret (v := .tuple #[.agg #[.string (strOfNums []), .int .i64 ino], .int .i64 3, .bool true]) (by simp [results, Try.results28, go_sem]) rfl ⟨?_, ?_⟩
        · unfold frE frS env
          rw [hok.out, if_pos rfl, if_pos rfl, HT.out, show (fEn zs).i = ino from HI.out, show fSz zs = 3 by unfold fSz; rw [HL.out], List.take_zero]; rfl
        · exact (Below.refl _ _).alloc (Nat.le_refl _) _
      · have hcv := conv_part (c := c - 3) (((HH.out.next HB.out).rest 3).front (k := ln) (by omega))
        have hc4 : ¬ (c = 3) := hc3
        have e1 : 3 + ln - 3 = ln := by omega
        go_enter Try.func28, Try.ntmps28
        go_wp2_with (fail)
        refine hg1.mono ?_
        rintro e w' ⟨rfl, rfl⟩
        clear hg1
        go_wp2_with (fail)
        refine hg2.mono ?_
        rintro e w' ⟨rfl, rfl⟩
        clear hg2
        go_wp2_with (fail)
        refine bodyPost_ret (v := .tuple #[.agg #[.string (strOfNums ((zs.drop 3).take ln)), .int .i64 ino], .int .i64 ((3 + ln : Nat) : Int), .bool true]) (by simp [results, Try.results28, go_sem]) rfl ⟨?_, ?_⟩
        · unfold frE frS env
          rw [hok.out, if_pos rfl, if_pos rfl, HT.out, show (fEn zs).i = ino from HI.out, show fSz zs = 3 + ln by unfold fSz; rw [HL.out]]
        · exact (Below.refl _ _).alloc (Nat.le_refl _) _
    · have hok := Lib.hid (show fOk zs = false by unfold fOk; rw [HL.out, hl, decide_eq_false hfit, Bool.and_false])
      have k1 : (n : Int) - 3 < (ln : Int) := by omega
      go_enter Try.func28, Try.ntmps28
      go_wp2_with (fail)
      refine hg1.mono ?_
      rintro e w' ⟨rfl, rfl⟩
      clear hg1
      go_wp2_with (fail)
      refine hg2.mono ?_
      rintro e w' ⟨rfl, rfl⟩
      clear hg2
      go_wp2_with (fail)
      refine bodyPost_ret (v := .tuple #[.agg #[.string ⟨#[]⟩, .int .i64 0], .int .i64 0, .bool false]) (by simp [results, Try.results28, go_sem]) rfl ⟨?_, ?_⟩
      · unfold frE frS; rw [hok.out]; rfl
      · exact HB.out
  · have hok := Lib.hid (show fOk zs = false by unfold fOk; rw [hl, decide_eq_false h3]; rfl)
    have o2 : getO n 2 1 = false := by unfold getO; rw [decide_eq_false_iff_not]; omega
    have v2 : getV n zs 2 1 = 0 := by unfold getV; rw [if_neg (by rw [o2]; decide)]
    rw [o2, v2] at hg2
    go_enter Try.func28, Try.ntmps28
    go_wp2_with (fail)
    refine hg1.mono ?_
    rintro e w' ⟨rfl, rfl⟩
    clear hg1
    go_wp2_with (fail)
    refine hg2.mono ?_
    rintro e w' ⟨rfl, rfl⟩
    clear hg2
    go_wp2_with (fail)
    refine bodyPost_ret (v := .tuple #[.agg #[.string ⟨#[]⟩, .int .i64 0], .int .i64 0, .bool false]) (by simp [results, Try.results28, go_sem]) rfl ⟨?_, ?_⟩
    · unfold frE frS; rw [hok.out]; rfl
    · exact HB.out
end Go.Proofs.Ytiedapiepklhlaa
