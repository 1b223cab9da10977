/-
  The reference's Encode, by contract.
-/
import Derived.Test.YtegllnjncpaipaaDec
namespace Go.Proofs.Ytegllnjncpaipaa
open Go.RowKit

def lenOf : Value → Nat
  | .slice _ n _ => n
  | _ => 0
/-- The padding loop's relation: k bytes stand. -/
def PadRel (w0 : World) (zs : List Int) (v : Value) (w : World) : Prop :=
  ∃ k j : Nat, k = zs.length + j ∧ k ≤ 64 ∧ Own w w0.heap.size v k (zs ++ List.replicate j 0) ∧ Below w0.heap.size w0 w

theorem rep_snoc (zs : List Int) (j : Nat) : zs ++ List.replicate j 0 ++ [0] = zs ++ List.replicate (j + 1) 0 := by
  rw [List.append_assoc, List.replicate_succ']
theorem encL_yes {s o i : Int} {x : List Int} (h : x.length ≤ 56) (h1 : hasW s 4 = true) (h2 : hasW o 2 = true) (h3 : hasW i 2 = true) : encO s o i x = true ∧ encL s o i x = digs 4 s ++ digs 2 o ++ digs 2 i ++ padL x 56 := by
  have ho : encO s o i x = true := by simp [encO, okH, h, h1, h2, h3]
  refine ⟨ho, ?_⟩
  rw [encL, ho, if_pos rfl, headL]
  rw [show putL 4 s = digs 4 s from putL_yes (m := 4) (by omega) (by omega) h1, show putL 2 o = digs 2 o from putL_yes (m := 2) (by omega) (by omega) h2, show putL 2 i = digs 2 i from putL_yes (m := 2) (by omega) (by omega) h3]
theorem put_len4 (n : Int) : (putL 4 n).length = if hasW n 4 then 4 else 0 := putL_len 4 n (by omega) (by omega)
theorem put_len2 (n : Int) : (putL 2 n).length = if hasW n 2 then 2 else 0 := putL_len 2 n (by omega) (by omega)

set_option maxHeartbeats 4000000 in
theorem refEnc_any (s o i : Int) (a : Option Addr) (n c : Nat) (x : List Int) (w : World) (hx : Pin w a n c x) (hs : s ≤ 9223372036854775807) (ho : o ≤ 9223372036854775807) (hi : i ≤ 9223372036854775807) :
    Calls Try.prog 11 #[hv s o i, .slice a n c] w (RetT w (encL s o i x) (encO s o i x)) := by
  obtain ⟨wb, hwb⟩ : ∃ wb, wb = w.alloc (.cells #[.int .i64 s, .int .i64 o, .int .i64 i] 23 (0, 0)) := ⟨_, rfl⟩
  have h0 : Hx wb w.heap.size s o i := by rw [hwb]; exact Hx.mk' w s o i _
  have hB0 : Below w.heap.size w wb := by rw [hwb]; exact (Below.refl _ _).alloc (Nat.le_refl _) _
  have hxb : Pin wb a n c x := hx.next hB0
  have HXL := Lib.hid hx.len
  have hB0' := hB0
  have hxb0 := Lib.hid hxb
  clear hx
  have y1 := h0.c0
  have y2 := h0.c1
  have y3 := h0.c2
  go_enter Try.func11, Try.ntmps11
  go_wp2_with (fail)
  rw [← hwb]
  clear hwb
  refine (refPut_s 4 s wb hs).mono ?_
  rintro e w1 ⟨a1, m1, c1, rfl, hp1, ho1, hb1⟩
  have h1 := h0.next hb1
  have hx1 := hxb.next hb1
  clear y1 y2 y3
  have y2 := h1.c1
  have y3 := h1.c2
  go_wp2_with (fail)
  refine (refPut_s 2 o w1 ho).mono ?_
  rintro e w2 ⟨a2, m2, c2, rfl, hp2, _, hb2⟩
  have h2 := h1.next hb2
  have hx2 := hx1.next hb2
  have q1 := fun h => (ho1 h).lo
  have s12 := hb2.size
  have L1 := Lib.hid (show m1 = if hasW s 4 then 4 else 0 by rw [← hp1.len, put_len4])
  clear y2 y3
  have y3 := h2.c2
  have hbb2 := hb1.trans (hb2.mono hb1.size)
  have ho2 := fun h => (ho1 h).below (Nat.le_refl _) hb2
  clear h1 h0 hxb hx1 ho1 hp1
  go_wp2_with (fail)
  refine (refPut_s 2 i w2 hi).mono ?_
  rintro e w3 ⟨a3, m3, c3, rfl, hp3, q3', hb3⟩
  have q3 := fun h => (q3' h).lo
  clear q3'
  have hx3 := hx2.next hb3
  have hbb3 := hbb2.trans (hb3.mono hbb2.size)
  have ho3 := fun h => (ho2 h).below (Nat.le_refl _) hb3
  have hp2 := hp2.next hb3
  have hB3 : Below w.heap.size w w3 := hB0.trans (hbb3.mono hB0.size)
  have l1 := L1.out
  have l2 : m2 = if hasW o 2 then 2 else 0 := by rw [← hp2.len, put_len2]
  have l3 : m3 = if hasW i 2 then 2 else 0 := by rw [← hp3.len, put_len2]
  clear h2 hx2 hbb2 ho2 y3 hb3 hb2 hb1 hB0
  cases g1 : hasW s 4
  · rw [g1] at l1
    obtain rfl : m1 = 0 := l1
    have hL : Hid (encO s o i x = false) := by show _ = _; simp [encO, okH, g1]
    clear g1 l2 l3
    go_wp2_with (fail)
    go_ret2
    rw [encL, hL.out]
    exact ⟨_, _, _, rfl, Pin.zero _, hB3⟩
  rw [g1] at l1
  obtain rfl : m1 = 4 := l1
  cases g2 : hasW o 2
  · rw [g2] at l2
    obtain rfl : m2 = 0 := l2
    have hL : Hid (encO s o i x = false) := by show _ = _; simp [encO, okH, g2]
    clear g1 g2 l3
    go_wp2_with (fail)
    go_ret2
    rw [encL, hL.out]
    exact ⟨_, _, _, rfl, Pin.zero _, hB3⟩
  rw [g2] at l2
  obtain rfl : m2 = 2 := l2
  cases g3 : hasW i 2
  · rw [g3] at l3
    obtain rfl : m3 = 0 := l3
    have hL : Hid (encO s o i x = false) := by show _ = _; simp [encO, okH, g3]
    clear g1 g2 g3
    go_wp2_with (fail)
    go_ret2
    rw [encL, hL.out]
    exact ⟨_, _, _, rfl, Pin.zero _, hB3⟩
  rw [g3] at l3
  obtain rfl : m3 = 2 := l3
  by_cases hn : n ≤ 56
  · have hL := encL_yes (x := x) (by rw [HXL.out]; exact hn) g1 g2 g3
    have HO := Lib.hid hL.1
    have HE := Lib.hid hL.2
    have HY := Lib.hid (show putL 4 s ++ putL 2 o ++ putL 2 i ++ x = digs 4 s ++ digs 2 o ++ digs 2 i ++ x by
      rw [show putL 4 s = digs 4 s from putL_yes (m := 4) (by omega) (by omega) g1, show putL 2 o = digs 2 o from putL_yes (m := 2) (by omega) (by omega) g2, show putL 2 i = digs 2 i from putL_yes (m := 2) (by omega) (by omega) g3])
    have hn' : ¬ (56 : Int) < (n : Int) := by omega
    have ho4 := ho3 (by omega)
    have hn2 := hp2.nil
    have hn3 := hp3.nil
    have hnx := hx3.nil
    have hsz := hbb3.size
    have hx3b := hx3.bys
    have hp2b := hp2.bys
    have hp3b := hp3.bys
    have hx3l := fun {w'} (h : Below wb.heap.size wb w') => hxb0.out.bys.next h
    clear hL g1 g2 g3 ho3 hp2 hp3
    have hne3 : (2 : Nat) = 0 ∨ ∀ x, a3 = some x → some x.block ≠ (Value.slice a1 4 c1).ownBlock := .inr fun x e e2 => by
      have h3 := (q3 (by omega) x e).1
      cases ha : a1 with
      | none => rw [ha] at e2; cases e2
      | some y =>
        rw [ha] at e2
        have h1 := (q1 (by omega) y ha).2
        have h4 : x.block = y.block := by simpa [Value.ownBlock] using e2
        omega
    have HNE := Lib.hid hne3
    clear hne3 q1 q3
    cases a2 with
    | none => have := hn2 rfl; omega
    | some p2 =>
    cases a3 with
    | none => have := hn3 rfl; omega
    | some p3 =>
    clear hn2 hn3
    go_wp2_with (at_builtin; first
      | (refine wpList_ap2 rfl (.tmp 37) (.tmp 38) rfl wb.heap.size _ 4 _ rfl ho4 p2 2 c2 _ rfl hp2b (by omega) hsz wb hbb3 ?_
         intro v4 w4 ho5 hb5 hkeep
         have hp3c := hkeep _ _ _ hp3b HNE.out
         have hs4 := hb5.size
         clear hkeep hp3b ho4)
      | (refine wpList_ap2 rfl (.tmp 39) (.tmp 40) rfl wb.heap.size _ 6 _ rfl ho5 p3 2 c3 _ rfl hp3c (by omega) hs4 wb hb5 ?_
         intro v5 w5 ho6 hb6 _
         have hs5 := hb6.size
         clear hp3c ho5 hb5)
      | (refine wpList_ap rfl (.tmp 42) (.tmp 43) rfl wb.heap.size _ 8 _ rfl ho6 a n c _ rfl (hx3l hb6) hnx (by omega) hs5 wb hb6 ?_
         intro v6 w6 ho7 hb7
         clear ho6))
    rw [HY.out] at ho7
    obtain ⟨ZS, hZS⟩ : ∃ zs, zs = digs 4 s ++ digs 2 o ++ digs 2 i ++ x := ⟨_, rfl⟩
    have hZL : Hid (ZS.length = 8 + n) := by show _ = _; rw [hZS]; simp [digs_len, HXL.out]; omega
    have HZ := Lib.hid hZS
    rw [← hZS] at ho7
    clear hZS hb6
    go_loopw [9] (fun v wr => PadRel wb ZS v wr) (fun v _ => 64 - lenOf v)
    case atStart => exact ⟨8 + n, 0, by rw [hZL.out]; rfl, by omega, by simpa using ho7, hb7⟩
    case round =>
      obtain ⟨k, j, hk, hk64, ho8, hb8⟩ := hrel
      have HK := Lib.hid hk
      clear hk hb7
      obtain ⟨a8, c8, rfl, hp8, _⟩ := ho8.pin
      have hs8 := hb8.size
      by_cases hlt : k < 64
      · go_wp2_with (at_builtin; go_must (refine wpList_ap rfl (.tmp 48) (.tmp 49) rfl wb.heap.size _ k _ rfl (ho8.below (Nat.le_refl _) ((Below.refl _ _).alloc (Nat.le_refl _) _)) _ 1 1 [0] rfl (bys_one wr (by omega)) (fun h => by cases h) (by omega) (by simp; omega) wb (hb8.alloc hs8 _) ?_); intro v9 w9 ho9 hb9)
        obtain ⟨a9, c9, rfl, hp9, _⟩ := ho9.pin
        go_roundw
        case rel => exact ⟨k + 1, j + 1, by rw [HK.out]; omega, by omega, by rw [← rep_snoc]; exact ho9, hb9⟩
        case measure => simp [lenOf]; omega
      · obtain rfl : k = 64 := by omega
        go_wp2_with (fail)
        go_ret2
        rw [HE.out, HO.out]
        refine ⟨_, _, _, rfl, ?_, hB0'.trans (hb8.mono hB0'.size)⟩
        have hj : j = 56 - x.length := by have := HK.out; rw [hZL.out] at this; rw [HXL.out]; omega
        have : digs 4 s ++ digs 2 o ++ digs 2 i ++ padL x 56 = ZS ++ List.replicate j 0 := by rw [HZ.out, hj, padL]; simp
        rw [this]
        exact hp8
  · have hn' : (56 : Int) < (n : Int) := by omega
    have hL : Hid (encO s o i x = false) := by show _ = _; simp [encO, HXL.out, hn]
    clear g1 g2 g3 hn
    go_wp2_with (fail)
    go_ret2
    rw [encL, hL.out]
    exact ⟨_, _, _, rfl, Pin.zero _, hB3⟩

end Go.Proofs.Ytegllnjncpaipaa
