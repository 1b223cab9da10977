/-
  SectorBack, walked.
-/
import Derived.Test.YtegllnjncpaipaaRefD
import Derived.Test.YtegllnjncpaipaaAl4
namespace Go.Proofs.Ytegllnjncpaipaa
open Go.RowKit

theorem getN_app (p : List Int) (m : Nat) (n : Int) (q : List Int) (h0 : 0 ≤ n) (h1 : n < 256 ^ m) : getN (p ++ (digs m n ++ q)) p.length m = n := by
  induction m generalizing p n with
  | zero => simp [getN] at *; omega
  | succ m ih =>
    have hb : byt (p ++ (digs (m + 1) n ++ q)) p.length = n % 256 := by
      show byt (p ++ (digs (m + 1) n ++ q)) (p.length + 0) = n % 256
      rw [byt_app_right]
      rfl
    have hr := ih (p ++ [n % 256]) (n / 256) (by omega) (by rw [Int.pow_succ] at h1; omega)
    rw [List.length_append, List.length_singleton] at hr
    rw [getN, hb, show p ++ (digs (m + 1) n ++ q) = p ++ [n % 256] ++ (digs m (n / 256) ++ q) by simp [digs], hr]
    omega
theorem hasW4 {n : Int} (h : hasW n 4 = true) : 0 ≤ n ∧ n < 4294967296 := by simp [hasW] at h; omega
theorem hasW2 {n : Int} (h : hasW n 2 = true) : 0 ≤ n ∧ n < 65536 := by simp [hasW] at h; omega
theorem hasW4_of {n : Int} (h0 : 0 ≤ n) (h : n < 4294967296) : hasW n 4 = true := by simp [hasW]; omega
theorem hasW2_of {n : Int} (h0 : 0 ≤ n) (h : n < 65536) : hasW n 2 = true := by simp [hasW]; omega
theorem putL4 {n : Int} (h : hasW n 4 = true) : putL 4 n = digs 4 n := putL_yes (m := 4) (by omega) (by omega) h
theorem putL2 {n : Int} (h : hasW n 2 = true) : putL 2 n = digs 2 n := putL_yes (m := 2) (by omega) (by omega) h
/-- What was encoded, and how it is decoded. -/
structure EncOk (s o i : Int) (x : List Int) : Prop where
  fit : x.length ≤ 56
  ws : hasW s 4 = true
  wo : hasW o 2 = true
  wi : hasW i 2 = true
  eq : encL s o i x = digs 4 s ++ (digs 2 o ++ (digs 2 i ++ padL x 56))
  len : (encL s o i x).length = 64
  d0 : decN (encL s o i x) 0 4 = s
  d1 : decN (encL s o i x) 4 2 = o
  d2 : decN (encL s o i x) 6 2 = i
  dl : decL (encL s o i x) = padL x 56
  dO : decO (encL s o i x) = true
theorem encO_ok {s o i : Int} {x : List Int} (h : encO s o i x = true) : EncOk s o i x := by
  have h' := h
  rw [encO, Bool.and_eq_true, decide_eq_true_eq, okH, Bool.and_eq_true, Bool.and_eq_true] at h'
  obtain ⟨hx, ⟨h1, h2⟩, h3⟩ := h'
  have heq : encL s o i x = digs 4 s ++ (digs 2 o ++ (digs 2 i ++ padL x 56)) := by
    rw [encL, h, if_pos rfl, headL, putL4 h1, putL2 h2, putL2 h3]
    simp only [List.append_assoc]
  have hlen : (encL s o i x).length = 64 := by
    rw [heq]
    simp only [List.length_append, digs_len, padL_len hx]
  have hO : decO (encL s o i x) = true := by simp [decO, hlen]
  have b1 := hasW4 h1
  have b2 := hasW2 h2
  have b3 := hasW2 h3
  refine ⟨hx, h1, h2, h3, heq, hlen, ?_, ?_, ?_, ?_, hO⟩
  · rw [decN, hO, if_pos rfl, heq]
    exact getN_app [] 4 s _ b1.1 (by omega)
  · rw [decN, hO, if_pos rfl, heq]
    have := getN_app (digs 4 s) 2 o (digs 2 i ++ padL x 56) b2.1 (by omega)
    rwa [digs_len] at this
  · rw [decN, hO, if_pos rfl, heq, ← List.append_assoc]
    have := getN_app (digs 4 s ++ digs 2 o) 2 i (padL x 56) b3.1 (by omega)
    rwa [List.length_append, digs_len, digs_len] at this
  · rw [decL, hO, if_pos rfl, heq, ← List.append_assoc, ← List.append_assoc]
    exact List.drop_left' (by simp [digs_len])

set_option maxHeartbeats 4000000 in
theorem walk_back (s o i : Int) (a1 : Option Addr) (n1 c1 : Nat) (x1 : List Int) (w : World) (h1 : Pin w a1 n1 c1 x1) :
    Calls Try.prog 5 #[hv s o i, .slice a1 n1 c1] w fun e w' => e = .returned (.bool true) ∧ Below w.heap.size w w' := by
  obtain ⟨wb, hwb⟩ : ∃ wb, wb = w.alloc (.cells #[.int .i64 s, .int .i64 o, .int .i64 i] 23 (0, 0)) := ⟨_, rfl⟩
  have x0 : Hx wb w.heap.size s o i := by rw [hwb]; exact Hx.mk' w s o i _
  have hB0 : Below w.heap.size w wb := by rw [hwb]; exact (Below.refl _ _).alloc (Nat.le_refl _) _
  have h1 := h1.next hB0
  have m1 := Nat.le_trans h1.cap h1.max
  go_enter Try.func5, Try.ntmps5
  go_wp2_with (fail)
  rw [← hwb]
  clear hwb
  refine (alive_any wb).mono ?_
  rintro e w1 ⟨rfl, hb1⟩
  have hB1 := hB0.trans (hb1.mono hB0.size)
  have x1' := x0.next hb1
  have h1 := h1.next hb1
  clear x0 hb1 hB0
  have y0 := x1'.c0
  have y1 := x1'.c1
  have y2 := x1'.c2
  have HXL := Lib.hid h1.len
  go_wp2_with (fail)
  have henc := enc_any s o i a1 n1 c1 x1 w1 h1.bys
  cases hO : encO s o i x1
  · have hL : encL s o i x1 = [] := by rw [encL, hO]; rfl
    rw [hO, hL] at henc
    have HN : Hid (¬ (n1 ≤ 56 ∧ 0 ≤ s ∧ s < 4294967296 ∧ 0 ≤ o ∧ o < 65536 ∧ 0 ≤ i ∧ i < 65536)) := fun ⟨k0, k1, k2, k3, k4, k5, k6⟩ => by
      have : encO s o i x1 = true := by
        rw [encO, okH, hasW4_of k1 k2, hasW2_of k3 k4, hasW2_of k5 k6, HXL.out]
        simp [k0]
      rw [this] at hO
      cases hO
    clear hO hL
    refine henc.mono ?_
    rintro e w2 ⟨a2, n2, c2, rfl, h2, hb2⟩
    obtain rfl : n2 = 0 := h2.len.symm
    have x2' := x1'.next hb2
    have hB2 := hB1.trans (hb2.mono hB1.size)
    clear y0 y1 y2 x1' hb2 hB1 h2 henc
    have y0 := x2'.c0
    have y1 := x2'.c1
    have y2 := x2'.c2
    go_wp2_with (fail)
    all_goals (go_ret; first | exact ⟨rfl, hB2⟩ | exact ⟨ret_bool (by have := HN.out; simp; omega), hB2⟩)
  · have hok := encO_ok hO
    rw [hO] at henc
    refine henc.mono ?_
    rintro e w2 ⟨a2, n2, c2, rfl, h2, hb2⟩
    obtain rfl : n2 = 64 := by rw [← h2.len, hok.len]
    have x2' := x1'.next hb2
    have hB2 := hB1.trans (hb2.mono hB1.size)
    have h1 := h1.next hb2
    have hdec := dec_any a2 64 c2 _ w2 h2
    unfold DecPost at hdec
    rw [hok.d0, hok.d1, hok.d2, hok.dl, hok.dO] at hdec
    have HK := Lib.hid hok
    have hn1 : n1 ≤ 56 := by rw [← HXL.out]; exact hok.fit
    clear y0 y1 y2 x1' hb2 hB1 henc hok hO h2
    go_wp2_with (fail)
    refine hdec.mono ?_
    rintro e w3 ⟨a3, n3, c3, rfl, h3, hb3⟩
    obtain rfl : n3 = 56 := by rw [← h3.len, padL_len (HK.out.fit)]
    have x3' := (x2'.next hb3).alloc (.cells #[.int .i64 s, .int .i64 o, .int .i64 i] 23)
    have hB3 := hB2.trans (hb3.mono hB2.size)
    have h1 := h1.next hb3
    have y0 := x3'.c0
    have y1 := x3'.c1
    have y2 := x3'.c2
    have hc3 := h3.cap
    have hm3 := h3.max
    obtain ⟨b3, o3, rfl, hb3lt, hcell⟩ := h3.at (by omega)
    have hin : (n1 : Int) ≤ (c3 : Int) := by omega
    clear x2' hB2 hb3 hdec
    have hfr : (padL x1 56).take n1 = x1 := by rw [padL, ← HXL.out]; exact List.take_left' rfl
    have hsame := same_eq (some ⟨b3, o3, none⟩) a1 n1 c3 c1 _ x1 (w3.alloc (.cells #[.int .i64 s, .int .i64 o, .int .i64 i] 23)) ((h3.alloc _).bys.front hn1) (h1.alloc _).bys (by omega) hfr
    clear hfr
    go_wp2_with (fail)
    refine hsame.mono ?_
    rintro e w4 ⟨rfl, hb4⟩
    have h4 := (h3.alloc _).next hb4
    have hB4 : Below w.heap.size w w4 := (hB3.alloc hB3.size _).trans (hb4.mono (by have := hB3.size; simp; omega))
    have HC := Lib.hid (show ∀ k, k < 56 → w4.cell? ⟨b3, o3 + k, none⟩ = some (.int .u8 (byt (padL x1 56) k)) from fun k hk => by
      obtain ⟨b', o', e', _, hc'⟩ := h4.at (by omega)
      cases e'
      exact hc' k hk)
    have HZ := Lib.hid (show ∀ k, n1 ≤ k → byt (padL x1 56) k = 0 from fun k hk => by rw [padL, byt_pad, byt_past (by rw [HXL.out]; exact hk)])
    clear hsame h1 h3 h4 hcell hB3 x3' y0 y1 y2 hb4
    go_wp2_with (fail)
    go_loop [10] (fun v => ∃ k : Nat, n1 ≤ k ∧ k ≤ 56 ∧ v = .int .i64 k) (fun v => 56 - (intOf v).toNat)
    case atStart => exact ⟨n1, Nat.le_refl _, hn1, rfl⟩
    case round =>
      obtain ⟨k, hk1, hk2, rfl⟩ := hrel
      by_cases hlt : k < 56
      · have g := HC.out k hlt
        rw [HZ.out k hk1] at g
        have e0 : (0 : Int) ≤ (k : Int) := by omega
        have e1 : (k : Int) < 56 := by omega
        go_wp2_with (fail)
        go_round
        case rel => exact ⟨k + 1, by omega, by omega, by go_num⟩
        case measure => simp [intOf]; omega
      · obtain rfl : k = 56 := by omega
        go_wp2_with (fail)
        go_ret
        exact ⟨rfl, hB4⟩

end Go.Proofs.Ytegllnjncpaipaa
