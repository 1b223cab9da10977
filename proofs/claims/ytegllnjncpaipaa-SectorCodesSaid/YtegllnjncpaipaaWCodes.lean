/-
  SectorCodes, walked.
-/
import Derived.Test.YtegllnjncpaipaaRefE
import Derived.Test.YtegllnjncpaipaaRefD
import Derived.Test.YtegllnjncpaipaaAl4
namespace Go.Proofs.Ytegllnjncpaipaa
open Go.RowKit

theorem encL_len {s o i : Int} {x : List Int} : (encL s o i x).length ≤ 64 := by
  cases h : encO s o i x
  · rw [encL, h]; simp
  · have hx : x.length ≤ 56 := by rw [encO, Bool.and_eq_true, decide_eq_true_eq] at h; exact h.1
    rw [encL, h, if_pos rfl, List.length_append, padL_len hx]
    have := (headL_len s o i).1
    omega
theorem decL_len {x : List Int} : (decL x).length ≤ 56 := by
  cases h : decO x
  · rw [decL, h]; simp
  · rw [decL, h, if_pos rfl, List.length_drop]
    have : x.length = 64 := by simpa [decO] using h
    omega

set_option maxHeartbeats 4000000 in
theorem walk_codes (s o i : Int) (a1 a2 : Option Addr) (n1 c1 n2 c2 : Nat) (x1 x2 : List Int) (w : World) (h1 : Pin w a1 n1 c1 x1) (h2 : Pin w a2 n2 c2 x2) (ws : s ≤ 9223372036854775807) (wo : o ≤ 9223372036854775807) (wi : i ≤ 9223372036854775807) :
    Calls Try.prog 3 #[hv s o i, .slice a1 n1 c1, .slice a2 n2 c2] w fun e w' => e = .returned (.bool true) ∧ Below w.heap.size w w' := by
  obtain ⟨wb, hwb⟩ : ∃ wb, wb = w.alloc (.cells #[.int .i64 s, .int .i64 o, .int .i64 i] 23 (0, 0)) := ⟨_, rfl⟩
  have x0 : Hx wb w.heap.size s o i := by rw [hwb]; exact Hx.mk' w s o i _
  have hB0 : Below w.heap.size w wb := by rw [hwb]; exact (Below.refl _ _).alloc (Nat.le_refl _) _
  have h1 := h1.next hB0
  have h2 := h2.next hB0
  have m1 := Nat.le_trans h1.cap h1.max
  have m2 := Nat.le_trans h2.cap h2.max
  go_enter Try.func3, Try.ntmps3
  go_wp2_with (fail)
  rw [← hwb]
  clear hwb
  refine (alive_any wb).mono ?_
  rintro e w1 ⟨rfl, hb1⟩
  have hB1 := hB0.trans (hb1.mono hB0.size)
  have x1' := x0.next hb1
  have h1 := h1.next hb1
  have h2 := h2.next hb1
  clear x0 hb1 hB0
  by_cases hn1 : n1 ≤ 2000
  · by_cases hn2 : n2 ≤ 2000
    · have e1 : ¬ (2000 : Int) < (n1 : Int) := by omega
      have e2 : ¬ (2000 : Int) < (n2 : Int) := by omega
      go_wp2_with (fail)
      refine (copy_any a1 n1 c1 x1 w1 h1.bys h1.nil (by omega)).mono ?_
      rintro e w2 ⟨v2, rfl, ho2, hb2⟩
      obtain ⟨a3, c3, rfl, h3, _⟩ := ho2.pin
      have hB2 := hB1.trans (hb2.mono hB1.size)
      have x2' := x1'.next hb2
      have h1 := h1.next hb2
      have h2 := h2.next hb2
      clear x1' hB1 hb2 ho2
      have y0 := x2'.c0
      have y1 := x2'.c1
      have y2 := x2'.c2
      go_wp2_with (fail)
      refine (enc_any s o i a3 n1 c3 x1 w2 h3.bys).mono ?_
      rintro e w3 ⟨a4, n4, c4, rfl, h4, hb3⟩
      have hB3 := hB2.trans (hb3.mono hB2.size)
      have x3' := x2'.next hb3
      have h1 := h1.next hb3
      have h2 := h2.next hb3
      have h3 := h3.next hb3
      clear x2' hB2 hb3 y0 y1 y2
      have y0 := x3'.c0
      have y1 := x3'.c1
      have y2 := x3'.c2
      go_wp2_with (fail)
      refine (refEnc_any s o i a1 n1 c1 x1 w3 h1 ws wo wi).mono ?_
      rintro e w4 ⟨a5, n5, c5, rfl, h5, hb4⟩
      obtain rfl : n5 = n4 := by rw [← h5.len, ← h4.len]
      have hB4 := hB3.trans (hb4.mono hB3.size)
      have h1 := h1.next hb4
      have h2 := h2.next hb4
      have h3 := h3.next hb4
      have h4 := h4.next hb4
      clear x3' hB3 hb4 y0 y1 y2
      go_wp2_with (fail)
      refine (dec_any a2 n2 c2 x2 w4 h2).mono ?_
      rintro e w5 ⟨a6, n6, c6, rfl, h6, hb5⟩
      have hB5 := hB4.trans (hb5.mono hB4.size)
      have h1 := h1.next hb5
      have h3 := h3.next hb5
      have h4 := h4.next hb5
      have h5 := h5.next hb5
      clear hB4
      obtain ⟨p, hp⟩ : ∃ p, p = decN x2 0 4 := ⟨_, rfl⟩
      obtain ⟨q, hq⟩ : ∃ p, p = decN x2 4 2 := ⟨_, rfl⟩
      obtain ⟨r, hr⟩ : ∃ p, p = decN x2 6 2 := ⟨_, rfl⟩
      have hdec := refDec_any a2 n2 c2 x2 (w5.alloc (.cells #[.int .i64 p, .int .i64 q, .int .i64 r] 23)) ((h2.next hb5).alloc _)
      unfold DecPost at hdec
      rw [← hp, ← hq, ← hr] at hdec ⊢
      clear hp hq hr
      go_wp2_with (fail)
      refine hdec.mono ?_
      rintro e w6 ⟨a7, n7, c7, rfl, h7, hb6⟩
      have z6 := (Hx.mk' w5 p q r 23).next hb6
      obtain rfl : n7 = n6 := by rw [← h7.len, ← h6.len]
      have hB6 : Below w.heap.size w w6 := (hB5.alloc hB5.size _).trans (hb6.mono (by have := hB5.size; simp; omega))
      have h1 := (h1.alloc _).next hb6
      have h3 := (h3.alloc _).next hb6
      have h4 := (h4.alloc _).next hb6
      have h5 := (h5.alloc _).next hb6
      have h6 := (h6.alloc _).next hb6
      have l5 : n5 ≤ 64 := by rw [← h5.len]; exact encL_len
      have l7 : n7 ≤ 56 := by rw [← h7.len]; exact decL_len
      clear hB5 hb6 hdec
      have y0 := (z6.alloc (.cells #[.int .i64 p, .int .i64 q, .int .i64 r] 23)).c0
      have y1 := (z6.alloc (.cells #[.int .i64 p, .int .i64 q, .int .i64 r] 23)).c1
      have y2 := (z6.alloc (.cells #[.int .i64 p, .int .i64 q, .int .i64 r] 23)).c2
      go_wp2_with (fail)
      refine (same_eq _ _ n5 c4 c5 _ _ _ (h4.alloc _).bys (h5.alloc _).bys (by omega) rfl).mono ?_
      rintro e w7 ⟨rfl, hb7⟩
      have z7 := (z6.alloc (.cells #[.int .i64 p, .int .i64 q, .int .i64 r] 23)).next hb7
      have z8 := (Hx.mk' w6 p q r 23).next hb7
      have hB7 : Below w.heap.size w w7 := (hB6.alloc hB6.size _).trans (hb7.mono (by have := hB6.size; simp; omega))
      have h1 := (h1.alloc _).next hb7
      have h3 := (h3.alloc _).next hb7
      have h6 := (h6.alloc _).next hb7
      have h7 := (h7.alloc _).next hb7
      clear hB6 hb7 z6 y0 y1 y2 h4 h5
      have y0 := z7.c0
      have y1 := z7.c1
      have y2 := z7.c2
      have k0 := z8.c0
      have k1 := z8.c1
      have k2 := z8.c2
      go_wp2_with (fail)
      refine (same_eq _ _ n7 c6 c7 _ _ w7 h6.bys h7.bys (by omega) rfl).mono ?_
      rintro e w8 ⟨rfl, hb8⟩
      have hB8 : Below w.heap.size w w8 := hB7.trans (hb8.mono hB7.size)
      have h1 := h1.next hb8
      have h3 := h3.next hb8
      clear hB7 hb8 z7 z8 y0 y1 y2 k0 k1 k2 h6 h7
      go_wp2_with (fail)
      refine (same_eq _ _ n1 c3 c1 _ _ w8 h3.bys h1.bys (by omega) rfl).mono ?_
      rintro e w9 ⟨rfl, hb9⟩
      go_wp2_with (fail)
      go_ret
      exact ⟨rfl, hB8.trans (hb9.mono hB8.size)⟩
    · have e1 : ¬ (2000 : Int) < (n1 : Int) := by omega
      have e2 : (2000 : Int) < (n2 : Int) := by omega
      go_wp2_with (fail)
      go_ret
      exact ⟨rfl, hB1⟩
  · have e1 : (2000 : Int) < (n1 : Int) := by omega
    go_wp2_with (fail)
    go_ret
    exact ⟨rfl, hB1⟩

end Go.Proofs.Ytegllnjncpaipaa
