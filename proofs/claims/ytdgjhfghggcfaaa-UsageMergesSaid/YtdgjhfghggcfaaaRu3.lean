/-
  The victims: the document's.
-/
import Derived.Test.YtdgjhfghggcfaaaRu2
namespace Go.Proofs.Ytdgjhfghggcfaaa
open Go.RowKit
set_option linter.unusedVariables false

/-- The victims of a geometry. -/
def VicR (d r s : Int) (ks ts l : List Int) : Prop := (¬ Rt d r s → l = []) ∧ (Rt d r s → l = vres (gr (PL d r) (vL s.toNat ks ts (PL d r).toNat)))
theorem VicR.one {d r s : Int} {ks ts l m : List Int} (h : VicR d r s ks ts l) (k : VicR d r s ks ts m) : l = m := by
  by_cases hr : Rt d r s
  · rw [h.2 hr, k.2 hr]
  · rw [h.1 hr, k.1 hr]
/-- What the document's way has behind the counts up to k; and behind the first m segments of the next count. -/
def vP (D : Int) (S : Nat) (ks ts : List Int) (k : Nat) : Int × List Usd := (vL S ks ts k).foldl (stp D) (0, [])
def vQ (D : Int) (S : Nat) (ks ts : List Int) (k m : Nat) : Int × List Usd := (vRow S ks ts ((k : Int) + 1) m).foldl (stp D) (vP D S ks ts k)
theorem vP_succ (D : Int) (S : Nat) (ks ts : List Int) (k : Nat) : vP D S ks ts (k + 1) = vQ D S ks ts k S := by
  unfold vP vQ
  rw [vL_succ, List.foldl_append]
  rfl
theorem vQ_succ (D : Int) (S : Nat) (ks ts : List Int) (k m : Nat) : vQ D S ks ts k (m + 1) = if num ks m = (k : Int) + 1 ∧ ¬ (m : Int) ∈ ts then stp D (vQ D S ks ts k m) ⟨(m : Int), (k : Int) + 1⟩ else vQ D S ks ts k m := by
  unfold vQ
  rw [vRow_succ, List.foldl_append]
  split <;> rfl
theorem vQ_past (D : Int) (S : Nat) (ks ts : List Int) (k m : Nat) (h : ks.length ≤ m) : ∀ j, vQ D S ks ts k (m + j) = vQ D S ks ts k m
  | 0 => rfl
  | j + 1 => by
    rw [← Nat.add_assoc, vQ_succ, if_neg, vQ_past D S ks ts k m h j]
    rintro ⟨h1, _⟩
    rw [num_out (by omega)] at h1
    omega
theorem vRow_len (S : Nat) (ks ts : List Int) (c : Int) (m : Nat) : (vRow S ks ts c m).length ≤ m := by
  unfold vRow
  rw [List.length_map]
  exact Nat.le_trans (List.length_filter_le _ _) (by simp)
theorem vL_len (S : Nat) (ks ts : List Int) : ∀ n, (vL S ks ts n).length ≤ n * S
  | 0 => Nat.zero_le _
  | n + 1 => by
    rw [vL_succ, List.length_append, Nat.add_mul, Nat.one_mul]
    have := vL_len S ks ts n
    have := vRow_len S ks ts ((n : Int) + 1) S
    omega
theorem vQ_bd {D : Int} (hD : 0 ≤ D) (S : Nat) (ks ts : List Int) (k m : Nat) (hk : k ≤ 64) (hS : S ≤ 64) (hm : m ≤ S) : 0 ≤ (vQ D S ks ts k m).1 ∧ (vQ D S ks ts k m).1 ≤ D ∧ (vQ D S ks ts k m).2.length ≤ 100000 := by
  have hp : 0 ≤ (vP D S ks ts k).1 ∧ (vP D S ks ts k).1 ≤ D := stp_sum _ _ (Int.le_refl _) hD fun x hx => by
    obtain ⟨s, _, h0, _, rfl⟩ := usL_mem.1 (vL_mem.1 hx).1
    exact Int.le_of_lt h0
  have hq := stp_sum (D := D) (vRow S ks ts ((k : Int) + 1) m) (vP D S ks ts k) hp.1 hp.2 fun x hx => by
    obtain ⟨s, _, _, _, rfl⟩ := vRow_mem.1 hx
    simp only
    omega
  refine ⟨hq.1, hq.2, ?_⟩
  have l1 := stp_len (D := D) (vRow S ks ts ((k : Int) + 1) m) (vP D S ks ts k)
  have l2 := stp_len (D := D) (vL S ks ts k) (0, [])
  have l3 := vRow_len S ks ts ((k : Int) + 1) m
  have l4 := vL_len S ks ts k
  have l5 : k * S ≤ 64 * 64 := Nat.mul_le_mul hk hS
  unfold vQ
  simp only [List.length_nil] at l2
  unfold vP at l1 ⊢
  omega
set_option maxHeartbeats 2000000 in
theorem rvic_out (d r s : Int) (a1 a2 : Option Addr) (n1 c1 n2 c2 : Nat) (w : World) (h : ¬ Rt d r s) :
    Calls Try.prog 18 #[gv d r s, .slice a1 n1 c1, .slice a2 n2 c2] w (RetL w []) := by
  have x1 := Bx.mk' w d r s 23
  go_enter Try.func18, Try.ntmps18
  go_wp2_with (fail)
  refine (rright_no d r s _ h).mono ?_
  rintro e w2 ⟨rfl, hb⟩
  have hB := bel_box' _ (by simp) hb
  clear x1 hb
  go_wp2_with (fail)
  go_ret
  exact RetL.nil _ hB
set_option maxRecDepth 100000 in
set_option maxHeartbeats 8000000 in
theorem rvic_in (d r s : Int) (a1 a2 : Option Addr) (n1 c1 n2 c2 : Nat) (ks ts : List Int) (w : World) (h : Rt d r s) (hk : Ins w a1 n1 ks) (ht : Ins w a2 n2 ts) (hn1 : n1 ≤ 1000000000000) (hn2 : n2 ≤ 1000000000000) :
    Calls Try.prog 18 #[gv d r s, .slice a1 n1 c1, .slice a2 n2 c2] w (RetL w (vres (gr (PL d r) (vL s.toNat ks ts (PL d r).toNat)))) := by
  have x1 := Bx.mk' w d r s 23
  obtain ⟨p1, p2, _, _⟩ := PL_bd h.d1 h.d2 h.r1 h.r2
  have s1 := h.s1
  have s2 := h.s2
  have hpl : ∀ w, Calls Try.prog 26 #[gv d r s] w fun e w' => e = .returned (.int .i64 (PL d r)) ∧ Below w.heap.size w w' := fun w => rplaces_yes d r s w h
  obtain ⟨S, rfl⟩ := Int.eq_ofNat_of_zero_le (show 0 ≤ s by omega)
  obtain ⟨D, hD⟩ := Int.eq_ofNat_of_zero_le (show 0 ≤ PL d r by omega)
  rw [hD] at hpl p1 p2 ⊢
  have HPL := Lib.hid hpl
  rw [Int.toNat_natCast, Int.toNat_natCast, ← stp_vL, show ((vL S ks ts D).foldl (stp (D : Int)) (0, [])).2 = (vP D S ks ts D).2 from rfl]
  have hl := hk.len
  have ham : Hid (∀ (z : Int) w, Ins w a2 n2 ts → Calls Try.prog 28 #[.slice a2 n2 c2, .int .i64 z] w fun e w' => e = .returned (.bool (decide (z ∈ ts))) ∧ w' = w) := Lib.hid fun z w hi => among_any a2 n2 c2 ts z w hi hn2
  have HK := Lib.hid hk
  have HT := Lib.hid ht
  clear hk ht hD hpl
  go_enter Try.func18, Try.ntmps18
  go_wp2_with (fail)
  refine (rright_yes d r S _ h).mono ?_
  rintro e w2 ⟨rfl, hb⟩
  have hB := bel_box' _ (by simp) hb
  have x2 := x1.next hb
  have y0 := x2.c0
  have y1 := x2.c1
  have y2 := x2.c2
  have HX := Lib.hid x2
  have HB := Lib.hid hB
  clear x1 hb x2 hB
  go_wp2_with (fail)
  refine (HPL.out _).mono ?_
  rintro e w3 ⟨rfl, hb⟩
  have x3 := HX.out.next hb
  have hB := HB.out.trans (hb.mono (Nat.le_of_lt HX.out.lt))
  have hO := ownI_lit (w.heap.size + 1) w3 (by have := x3.lt; omega)
  have x4 := x3.alloc (.cells #[] 3)
  have hB4 := hB.alloc (Nat.le_of_lt x3.lt) (.cells #[] 3)
  obtain ⟨X, hX⟩ : ∃ X, X = w3.alloc (.cells #[] 3) := ⟨_, rfl⟩
  rw [← hX] at hO x4 hB4
  have HX4 := Lib.hid x4
  have HB4 := Lib.hid hB4
  have HO := Lib.hid hO
  have hXs : w.heap.size < X.heap.size := x4.lt
  clear hb hB x3 HX HB hO x4 hB4 y0 y1 y2
  go_wp2_with (fail)
  rw [← hX]
  clear hX
  have HD : Hid (∀ k m : Nat, k ≤ D → m ≤ S → 0 ≤ (vQ D S ks ts k m).1 ∧ (vQ D S ks ts k m).1 ≤ D ∧ (vQ D S ks ts k m).2.length ≤ 100000) := Lib.hid fun k m hk hm => vQ_bd (by omega) S ks ts k m (by omega) (by omega) hm
  go_loopw [8, 9, 10, 11] (fun u q v _ wr => ∃ k : Nat, k ≤ D ∧ v = .int .i64 ((k : Int) + 1) ∧ q = .int .i64 (vP D S ks ts k).1 ∧ OwnI wr (w.heap.size + 1) u (vP D S ks ts k).2.length ((vP D S ks ts k).2.map Usd.s) ∧ Below (w.heap.size + 1) X wr) (fun _ _ v _ _ => D + 1 - (RowKit.intOf v).toNat)
  case atStart => exact ⟨0, by omega, rfl, rfl, HO.out, Below.refl _ _⟩
  case round =>
    obtain ⟨k, hkD, rfl, rfl, ho, hb⟩ := hrel
    have hsz : w.heap.size + 1 ≤ wr.heap.size := Nat.le_trans hXs hb.size
    by_cases hlt : k < D
    · have k1 : (k : Int) + 1 ≤ (D : Int) := by omega
      have HOW := Lib.hid ho
      have HBW := Lib.hid hb
      have hq0 : vP D S ks ts k = vQ D S ks ts k 0 := rfl
      rw [hq0] at HOW ⊢
      have HN : Hid (vP D S ks ts (k + 1) = vQ D S ks ts k S) := Lib.hid (vP_succ D S ks ts k)
      clear ho hb hq0
      go_wp2_with (fail)
      go_loopw [8, 9, 11] (fun u q v wi => ∃ m : Nat, m ≤ S ∧ v = .int .i64 m ∧ q = .int .i64 (vQ D S ks ts k m).1 ∧ OwnI wi (w.heap.size + 1) u (vQ D S ks ts k m).2.length ((vQ D S ks ts k m).2.map Usd.s) ∧ Below (w.heap.size + 1) X wi) (fun _ _ v _ => S - (RowKit.intOf v).toNat)
      case atStart => exact ⟨0, by omega, rfl, rfl, HOW.out, HBW.out⟩
      case round =>
        obtain ⟨m, hmS, rfl, rfl, ho, hb⟩ := hrel
        have y2 := (hb.cell (p := ⟨w.heap.size, 2, none⟩) (by show w.heap.size < _; omega)).trans HX4.out.c2
        have hszi : w.heap.size + 1 ≤ wr.heap.size := Nat.le_trans hXs hb.size
        obtain ⟨b1, b2, b3⟩ := HD.out k m (by omega) hmS
        have HSt := Lib.hid (vQ_succ D S ks ts k m)
        have HPa : Hid (n1 ≤ m → vQ D S ks ts k S = vQ D S ks ts k m) := Lib.hid fun hh => by
          have := vQ_past D S ks ts k m (by omega) (S - m)
          rwa [show m + (S - m) = S by omega] at this
        have hv : vQ D S ks ts k m = ((vQ D S ks ts k m).1, (vQ D S ks ts k m).2) := rfl
        have HEq : Hid (∃ Q, Q = vQ D S ks ts k m) := Lib.hid ⟨_, rfl⟩
        obtain ⟨Q, hQ⟩ := HEq.out
        rw [← hQ] at b1 b2 b3 HSt HPa ho ⊢
        clear hv HEq
        obtain ⟨q, L⟩ := Q
        simp only at b1 b2 b3 ho ⊢
        have HOI := Lib.hid ho
        have HBI := Lib.hid hb
        have HQ := Lib.hid hQ
        have hB4 := HB4.out.trans (hb.mono (Nat.le_succ _))
        clear ho hb hQ
        by_cases hms : m < S
        · have k2 : (m : Int) < (S : Int) := by omega
          have k0 : (0 : Int) ≤ (m : Int) := by omega
          by_cases hmn : m < n1
          · have k3 : (m : Int) < (n1 : Int) := by omega
            have ht3 := Lib.hid (HT.out.below (Nat.le_refl _) hB4)
            obtain ⟨b, off, rfl, hbl, hc⟩ := (HK.out.below (Nat.le_refl _) hB4).at (by omega)
            have y := hc m hmn
            clear hc hB4
            by_cases hz : num ks m = (k : Int) + 1
            · rw [hz] at y
              have HZ := Lib.hid hz
              clear hz
              go_wp2_with (fail)
              refine (ham.out (m : Int) _ ht3.out).mono ?_
              rintro e w4 ⟨rfl, rfl⟩
              by_cases hin : (m : Int) ∈ ts
              · have hd : decide ((m : Int) ∈ ts) = true := decide_eq_true hin
                rw [hd]
                have HIN := Lib.hid hin
                clear hin hd
                go_wp2_with (fail)
                go_roundw
                case rel => exact ⟨m + 1, by omega, by go_num, by rw [HSt.out, if_neg (fun x => x.2 HIN.out)], by rw [HSt.out, if_neg (fun x => x.2 HIN.out)]; exact HOI.out, HBI.out⟩
                case measure => simp [RowKit.intOf]; omega
              · have hd : decide ((m : Int) ∈ ts) = false := decide_eq_false hin
                rw [hd]
                have HIN := Lib.hid hin
                clear hin hd
                by_cases hf : q + ((k : Int) + 1) ≤ (D : Int)
                · have HF := Lib.hid hf
                  have HO4 := Lib.hid (HOI.out.alloc (.cells #[.int .i64 (m : Int)] 3))
                  have HB5 := Lib.hid (HBI.out.alloc (by omega) (.cells #[.int .i64 (m : Int)] 3))
                  have HS2 : Hid (stp (D : Int) (q, L) ⟨(m : Int), (k : Int) + 1⟩ = (q + ((k : Int) + 1), L ++ [⟨(m : Int), (k : Int) + 1⟩])) := Lib.hid (if_pos hf)
                  go_wp2_with (at_builtin; go_must (refine wpList_api rfl (.tmp 54) (.tmp 56) rfl (w.heap.size + 1) _ L.length (L.map Usd.s) rfl HO4.out w4.heap.size (m : Int) rfl (by simp) (by omega) (by simp; omega) X HB5.out ?_); intro v2 w5 ho5 hb5)
                  go_roundw
                  case rel => exact ⟨m + 1, by omega, by go_num, by rw [HSt.out, if_pos ⟨HZ.out, HIN.out⟩, HS2.out], by rw [HSt.out, if_pos ⟨HZ.out, HIN.out⟩, HS2.out]; simpa using ho5, hb5⟩
                  case measure => simp [RowKit.intOf]; omega
                · have hf' : decide (q + ((k : Int) + 1) ≤ (D : Int)) = false := decide_eq_false hf
                  have HS2 : Hid (stp (D : Int) (q, L) ⟨(m : Int), (k : Int) + 1⟩ = (q, L)) := Lib.hid (if_neg hf)
                  clear hf
                  go_wp2_with (fail)
                  go_roundw
                  case rel => exact ⟨m + 1, by omega, by go_num, by rw [HSt.out, if_pos ⟨HZ.out, HIN.out⟩, HS2.out], by rw [HSt.out, if_pos ⟨HZ.out, HIN.out⟩, HS2.out]; exact HOI.out, HBI.out⟩
                  case measure => simp [RowKit.intOf]; omega
            · have hz' : (num ks m == (k : Int) + 1) = false := by simp [hz]
              have HZ := Lib.hid hz
              clear hz
              go_wp2_with (fail)
              go_roundw
              case rel => exact ⟨m + 1, by omega, by go_num, by rw [HSt.out, if_neg (fun x => HZ.out x.1)], by rw [HSt.out, if_neg (fun x => HZ.out x.1)]; exact HOI.out, HBI.out⟩
              case measure => simp [RowKit.intOf]; omega
          · have k3 : decide ((m : Int) < (n1 : Int)) = false := decide_eq_false (by omega)
            have HE := Lib.hid (HPa.out (by omega))
            clear hB4
            go_wp2_with (fail)
            go_roundw
            case rel => exact ⟨k + 1, by omega, by go_num, by rw [HN.out, HE.out], by rw [HN.out, HE.out]; exact HOI.out, HBI.out⟩
            case measure => simp [RowKit.intOf]; omega
        · obtain rfl : m = S := by omega
          have k2 : decide ((m : Int) < (m : Int)) = false := decide_eq_false (by omega)
          clear hB4
          go_wp2_with (fail)
          go_roundw
          case rel => exact ⟨k + 1, by omega, by go_num, by rw [HN.out, ← HQ.out], by rw [HN.out, ← HQ.out]; exact HOI.out, HBI.out⟩
          case measure => simp [RowKit.intOf]; omega
    · obtain rfl : k = D := by omega
      have hk1 : decide ((k : Int) + 1 ≤ (k : Int)) = false := decide_eq_false (by omega)
      have HR : Hid (RetL w ((vP k S ks ts k).2.map Usd.s) (.returned u8) wr) := Lib.hid (RetL.own ho (by simp) (HB4.out.trans (hb.mono (Nat.le_succ _))))
      have HBB : Hid (Below w.heap.size w wr) := Lib.hid (HB4.out.trans (hb.mono (Nat.le_succ _)))
      have hbd := (HD.out k 0 (Nat.le_refl _) (Nat.zero_le _)).2.2
      have hq0 : vQ k S ks ts k 0 = vP k S ks ts k := rfl
      rw [hq0] at hbd
      obtain ⟨a, c, rfl, hi, _⟩ := ho.ins
      generalize (vP k S ks ts k).2 = L at *
      clear ho hb hi hq0 HD
      by_cases h2 : L.length < 2
      · have h2' : (L.length : Int) < 2 := by omega
        have HV2 : Hid (vres L = []) := Lib.hid (if_pos h2)
        go_wp2_with (fail)
        go_ret
        rw [HV2.out]
        exact RetL.nil _ HBB.out
      · have h2' : decide ((L.length : Int) < 2) = false := decide_eq_false (by omega)
        have HV2 : Hid (vres L = L.map Usd.s) := Lib.hid (if_neg h2)
        go_wp2_with (fail)
        go_ret
        rw [HV2.out]
        exact HR.out
theorem rvic_any (d r s : Int) (a1 a2 : Option Addr) (n1 c1 n2 c2 : Nat) (ks ts : List Int) (w : World) (hk : Ins w a1 n1 ks) (ht : Ins w a2 n2 ts) (hn1 : n1 ≤ 1000000000000) (hn2 : n2 ≤ 1000000000000) :
    Calls Try.prog 18 #[gv d r s, .slice a1 n1 c1, .slice a2 n2 c2] w fun e w' => ∃ l, RetL w l e w' ∧ VicR d r s ks ts l := by
  by_cases h : Rt d r s
  · exact (rvic_in d r s a1 a2 n1 c1 n2 c2 ks ts w h hk ht hn1 hn2).mono fun e w' hr => ⟨_, hr, (fun x => absurd h x), fun _ => rfl⟩
  · exact (rvic_out d r s a1 a2 n1 c1 n2 c2 w h).mono fun e w' hr => ⟨_, hr, (fun _ => rfl), fun x => absurd x h⟩
theorem rfree_any (d r s : Int) (a1 a2 : Option Addr) (n1 c1 n2 c2 : Nat) (ks ts : List Int) (w : World) (hk : Ins w a1 n1 ks) (ht : Ins w a2 n2 ts) (hn1 : n1 ≤ 1000000000000) (hn2 : n2 ≤ 1000000000000) :
    Calls Try.prog 16 #[gv d r s, .slice a1 n1 c1, .slice a2 n2 c2] w fun e w' => ∃ l, RetL w l e w' ∧ FreeR d r s ks ts l := by
  by_cases h : Rt d r s
  · exact (rfree_in d r s a1 a2 n1 c1 n2 c2 ks ts w h hk ht hn1 hn2).mono fun e w' hr => ⟨_, hr, (fun x => absurd h x), fun _ => rfl⟩
  · exact (rfree_out d r s a1 a2 n1 c1 n2 c2 w h).mono fun e w' hr => ⟨_, hr, (fun _ => rfl), fun x => absurd x h⟩
end Go.Proofs.Ytdgjhfghggcfaaa
