/-
  The program's Parity and Restore, by contract.
-/
import Derived.Test.YtegllnjncpaipaaOne
import Derived.Test.YtegllnjncpaipaaEnc
namespace Go.Proofs.Ytegllnjncpaipaa
open Go.RowKit

/-- The exclusive or of what is told of the first k. -/
def sumP (f : Nat → Pc) : Nat → List Int
  | 0 => []
  | k + 1 => xorL (sumP f k) ((f k).zs.drop 4)
def parL (f : Nat → Pc) (n : Nat) : List Int := if oneSeq f n then (f 0).zs.take 4 ++ sumP f n else []
theorem sumP_len {f : Nat → Pc} {k n : Nat} (h : k ≤ n) (ho : oneUpto f n = true) : (sumP f k).length ≤ 60 := by
  induction k with
  | zero => exact Nat.zero_le _
  | succ k ih =>
    have := (oneUpto_at (k := k) h ho).1
    rw [sumP, xorL_len, List.length_drop, this]
    have := ih (by omega)
    omega
def ParRel (f : Nat → Pc) (w0 : World) (n : Nat) (u v : Value) (w : World) : Prop :=
  ∃ k a m c, k ≤ n ∧ v = .int .i64 (k : Nat) ∧ u = .slice a m c ∧ Pin w a m c (sumP f k) ∧ m ≤ 60 ∧ Below w0.heap.size w0 w

set_option maxHeartbeats 2000000 in
theorem par_n (a : Option Addr) (n c : Nat) (f : Nat → Pc) (w : World) (h : Rws w a n f) (hn : n ≤ 9223372036854775807) :
    Calls Try.prog 17 #[.slice a n c] w (RetN w (parL f n) (oneSeq f n)) := by
  cases ho : oneSeq f n
  · have hf := one_any a n c f w h hn
    rw [ho] at hf
    have hP : Hid (parL f n = []) := by show _ = _; rw [parL, ho]; rfl
    clear ho h
    go_enter Try.func17, Try.ntmps17
    go_wp2_with (fail)
    refine hf.mono ?_
    rintro e w1 ⟨rfl, hb1⟩
    go_wp2_with (fail)
    go_ret2
    rw [hP.out]
    exact ⟨_, _, _, rfl, Pin.zero _, (fun x h => by cases h), hb1⟩
  · have hf := one_any a n c f w h hn
    rw [ho] at hf
    have ho1 : 0 < n ∧ oneUpto f n = true := by simpa [oneSeq] using ho
    have hP : Hid (parL f n = (f 0).zs.take 4 ++ sumP f n) := by show _ = _; rw [parL, ho]; rfl
    have HO := Lib.hid ho1.2
    have hn0 := ho1.1
    clear ho ho1
    go_enter Try.func17, Try.ntmps17
    go_wp2_with (fail)
    refine hf.mono ?_
    rintro e w1 ⟨rfl, hb1⟩
    go_wp2_with (fail)
    go_loopw [4, 6, 12] (fun u _s v wr => ParRel f w n u v wr) (fun _ _ v _ => n - (intOf v).toNat)
    case atStart => exact ⟨0, none, 0, 0, by omega, rfl, rfl, Pin.zero _, by omega, hb1⟩
    case round =>
      obtain ⟨k, x1, m1, d1, hk, rfl, rfl, hp1, hm1, hb⟩ := hrel
      have hr := h.next hb
      clear hb1
      by_cases hlt : k < n
      · obtain ⟨b, off, x, m, d, zs, rfl, hbl, hc, hp, hz, hm⟩ := hr.at hlt
        have hzl := (oneUpto_at hlt HO.out).1
        rw [hz, hp.len] at hzl
        subst hzl
        obtain ⟨b2, o2, rfl, _, _⟩ := hp.at (by omega)
        have hcap := hp.cap
        have hmax := hp.max
        have HS := Lib.hid (show sumP f (k + 1) = xorL (sumP f k) (zs.drop 4) by rw [← hz]; rfl)
        have HL := Lib.hid (sumP_len (k := k + 1) hlt HO.out)
        have HP := Lib.hid hp
        clear hm hz hp hr
        go_wp2_with (fail)
        refine (told_any b2 o2 d wr (by omega) (by omega)).mono ?_
        rintro e w2 ⟨rfl, rfl⟩
        go_wp2_with (fail)
        refine (xor_s _ _ m1 d1 60 (d - 4) _ _ wr hp1.bys (HP.out.rest 4).bys (by omega) (by omega)).mono ?_
        rintro e w2 ⟨x2, m2, d2, rfl, hp2, hb2⟩
        go_wp2_with (fail)
        go_roundw
        case rel => exact ⟨k + 1, x2, m2, d2, by omega, by go_num, rfl, by rw [HS.out]; exact hp2, by rw [← hp2.len, ← HS.out]; exact HL.out, hb.trans (hb2.mono hb.size)⟩
        case measure => simp [intOf]; omega
      · obtain rfl : k = n := by omega
        obtain ⟨b, off, x, m, d, zs, rfl, hbl, hc, hp, hz, hm⟩ := hr.at (i := 0) hn0
        rw [Nat.add_zero] at hc
        have hzl := (oneUpto_at hn0 HO.out).1
        rw [hz, hp.len] at hzl
        subst hzl
        obtain ⟨b2, o2, rfl, _, _⟩ := hp.at (by omega)
        have hcap := hp.cap
        have hmax := hp.max
        have HZ := Lib.hid hz
        have HP := Lib.hid hp
        have hsz := hb.size
        clear hm hz hp hr
        go_wp2_with (fail)
        refine (seqOf_any _ 64 d wr (by omega) (by omega) (fun h => by cases h)).mono ?_
        rintro e w2 ⟨rfl, rfl⟩
        go_wp2_with (fail)
        have hq := HP.out.front (k := 4) (by omega) (fun h => by cases h)
        have hcl : (catL (row2 ⟨some ⟨b2, o2, none⟩, 4, d, zs.take 4⟩ ⟨x1, m1, d1, sumP f k⟩) 2).length ≤ 1000000000000 := by
          rw [catL_two, List.length_append]; simp only []; rw [hq.len, hp1.len]; omega
        refine (concat_any _ 2 2 _ _ (rws_two hq hp1) (by omega) hcl).mono ?_
        rintro e w8 ⟨v8, rfl, ho8, hb8⟩
        rw [catL_two] at ho8
        have hB8 : Below w.heap.size w w8 := (hb.alloc hsz _).trans (hb8.mono (by simp; omega))
        have ho8' : Own w8 (wr.alloc (.cells #[.slice (some ⟨b2, o2, none⟩) 4 d, .slice x1 m1 d1] 24)).heap.size v8 (zs.take 4 ++ sumP f k).length (zs.take 4 ++ sumP f k) := ho8
        obtain ⟨n8, hn8⟩ : ∃ m, m = (zs.take 4 ++ sumP f k).length := ⟨_, rfl⟩
        rw [← hn8] at ho8'
        obtain ⟨a8, d8, rfl, hp8, hnew⟩ := ho8'.pin
        clear hcl hp1 hq hb hb8 ho8 ho8' hn8
        go_wp2_with (fail)
        go_ret2
        rw [hP.out, HZ.out]
        exact ⟨_, _, _, rfl, hp8, (fun x hx => by have := (hnew x hx).1; simp at this; omega), hB8⟩
theorem par_any (a : Option Addr) (n c : Nat) (f : Nat → Pc) (w : World) (h : Rws w a n f) (hn : n ≤ 9223372036854775807) :
    Calls Try.prog 17 #[.slice a n c] w (RetT w (parL f n) (oneSeq f n)) := (par_n a n c f w h hn).mono fun _ _ h => h.t

theorem restore_any (a : Option Addr) (n c : Nat) (f : Nat → Pc) (w : World) (h : Rws w a n f) (hn : n ≤ 9223372036854775807) :
    Calls Try.prog 18 #[.slice a n c] w (RetT w (parL f n) (oneSeq f n)) := by
  have hp := par_any a n c f w h hn
  clear h
  go_enter Try.func18, Try.ntmps18
  go_wp2_with (fail)
  refine hp.mono ?_
  rintro e w1 ⟨x, m, d, rfl, hp1, hb1⟩
  go_wp2_with (fail)
  go_ret2
  exact ⟨_, _, _, rfl, hp1, hb1⟩

end Go.Proofs.Ytegllnjncpaipaa
