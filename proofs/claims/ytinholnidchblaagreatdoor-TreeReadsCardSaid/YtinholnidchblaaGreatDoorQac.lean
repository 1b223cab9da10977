/-
  Which entries are right: the program's test, the document's, the statements' of rising names; by contract.
-/
import Derived.Test.YtinholnidchblaaGreatDoorQab
import Derived.Deep.RegionHeld
import Derived.Test.YtinholnidchblaaGreatDoorLay
import Derived.Lib.AppendZeros
import Derived.Lib.AppendZerosOnto
import Derived.Lib.Overlaps
import Derived.Laws.Externs
import Derived.Deep.RegionLaw
set_option linter.unusedVariables false
set_option linter.unusedSimpArgs false
namespace Go.Proofs.YtinholnidchblaaGreatDoor
open Go.RowKit
set_option linter.unusedVariables false
set_option linter.unusedSimpArgs false

theorem enters_wrong (args : Array Value) (w : World) : (callFunc 151 args).run Tryz.prog w = .ok (.enter 151 args) w := enters_of (P := Tryz.prog) Tryz.func151 (by kernel_rfl) rfl args w
theorem gives_wrong (w : World) : Gives 151 #[] (fun x => !okE x) w := fun x w' _ => wrong_any x w'
theorem any_wrong (L : List En) : (L.any fun x => !okE x) = !(L.all okE) := by
  induction L with
  | nil => rfl
  | cons x L ih => rw [List.any_cons, List.all_cons, ih, Bool.not_and]
set_option maxHeartbeats 2000000 in
theorem areRight_any (a : Option Addr) (n c : Nat) (L : List En) (w : World) (h : Ens w a n L) (hn : n ≤ 1000000000000) :
    Calls Tryz.prog 136 #[.slice a n c] w fun e w' => e = .returned (.bool (rgt L)) ∧ Below w.heap.size w w' := by
  have hl := h.len
  subst hl
  by_cases h64 : 64 < L.length
  · have k1 : (64 : Int) < (L.length : Int) := by omega
    have hr := Lib.hid (rgt_long h64)
    clear h h64
    go_enter Tryz.func136, Tryz.ntmps136
    go_wp2_with (fail)
    go_ret
    exact ⟨by rw [hr.out]; rfl, Below.refl _ _⟩
  have k1 : ¬ (64 : Int) < (L.length : Int) := by omega
  have hct := contains_any _ #[] enters_wrong _ w (gives_wrong w) a L.length c L h hn
  rw [any_wrong] at hct
  have HH := Lib.hid h
  clear h
  cases hw : L.all okE with
  | false =>
    rw [hw] at hct
    have hr := Lib.hid (rgt_bad hw)
    go_enter Tryz.func136, Tryz.ntmps136
    go_wp2_with (fail)
    refine hct.mono ?_
    rintro e w' ⟨rfl, hb⟩
    have HB := Lib.hid hb
    clear hct hb
    go_wp2_with (fail)
    go_ret
    exact ⟨by rw [hr.out]; rfl, HB.out⟩
  | true =>
    rw [hw] at hct
    have H64 := Lib.hid h64
    have HW := Lib.hid hw
    clear h64 hw
    go_enter Tryz.func136, Tryz.ntmps136
    go_wp2_with (fail)
    refine hct.mono ?_
    rintro e w1 ⟨rfl, hb⟩
    have HB := Lib.hid hb
    have HH1 := Lib.hid (HH.out.next hb)
    clear hct hb
    go_wp2_with (fail)
    go_loopw [3] (fun v wr => ∃ k q : Nat, 1 ≤ k ∧ (k ≤ L.length ∨ k = 1) ∧ v = .int .i64 k ∧ wr = w1.drewN q ∧ RisTo L k) (fun v _ => L.length - (RowKit.intOf v).toNat)
    case atStart => exact ⟨1, 0, by omega, by omega, rfl, rfl, RisTo.one _⟩
    case round =>
      obtain ⟨k, q, hk1, hk, rfl, rfl, hI⟩ := hrel
      have HI := Lib.hid hI
      clear hI
      by_cases hlt : k < L.length
      · have k2 : (k : Int) < (L.length : Int) := by omega
        have k0 : (0 : Int) ≤ (k : Int) := by omega
        obtain ⟨m, rfl⟩ : ∃ m, k = m + 1 := ⟨k - 1, by omega⟩
        have hw1 : IntKind.i64.wrap (((m + 1 : Nat) : Int) - 1) = (m : Int) := by rw [show ((m + 1 : Nat) : Int) - 1 = (m : Int) by omega]; exact IntWalk.i64_in _ (by omega)
        obtain ⟨b, off, rfl, hbl, hc1, hc2⟩ := HH1.out.at (i := m) (by omega)
        obtain ⟨b', off', e', hbl', hd1, hd2⟩ := HH1.out.at (i := m + 1) (by omega)
        cases e'
        have k3 : (m : Int) < (L.length : Int) := by omega
        have k4 : (0 : Int) ≤ (m : Int) := by omega
        clear hc2 hd2 hbl hbl'
        cases hbt : Op.bytesLess (eat L m).s.toList (eat L (m + 1)).s.toList with
        | true =>
          have hbt' : blt (eat L m).s (eat L (m + 1)).s = true := hbt
          have HBT := Lib.hid hbt'
          clear hbt'
          go_wp2_with (fail)
          go_quiet (fail)
          go_wp2_with (fail)
          go_roundw
          case rel => exact ⟨m + 1 + 1, q + nq, by omega, by omega, by go_num, rfl, HI.out.succ (fun j hj => (show j = m from Nat.succ.inj hj) ▸ HBT.out)⟩
          case measure => simp [RowKit.intOf]; omega
        | false =>
          have hr := Lib.hid (rgt_fall (not_ris hlt hbt))
          go_wp2_with (fail)
          go_quiet (fail)
          go_wp2_with (fail)
          go_ret
          exact ⟨by rw [hr.out]; rfl, below_drewN (below_drewN HB.out _) _⟩
      · have k2 : ¬ (k : Int) < (L.length : Int) := by omega
        have hr : rgt L = true := rgt_yes (by have := H64.out; omega) HW.out (RisTo.ris (by
          intro j hj
          exact HI.out j (by omega)))
        have HR := Lib.hid hr
        clear hr
        go_wp2_with (fail)
        go_ret
        exact ⟨by rw [HR.out]; rfl, below_drewN HB.out _⟩
end Go.Proofs.YtinholnidchblaaGreatDoor

/-
  The statements' test of rising names, the document's Right; by contract.
-/
namespace Go.Proofs.YtinholnidchblaaGreatDoor
open Go.RowKit
set_option linter.unusedVariables false
set_option linter.unusedSimpArgs false

end Go.Proofs.YtinholnidchblaaGreatDoor

/-
  Find of the program and of the document, by contract.
-/
namespace Go.Proofs.YtinholnidchblaaGreatDoor
open Go.RowKit
set_option linter.unusedVariables false
set_option linter.unusedSimpArgs false

theorem enters_find (args : Array Value) (w : World) : (callFunc 150 args).run Tryz.prog w = .ok (.enter 150 args) w := enters_of (P := Tryz.prog) Tryz.func150 (by kernel_rfl) rfl args w
set_option maxHeartbeats 1000000 in
/-- Find's closure: is the entry's name not below n? -/
theorem gives_find (b : Nat) (n : ByteArray) (w0 : World) (hlt : b < w0.heap.size) (hc : w0.cell? ⟨b, 0, none⟩ = some (.string n)) : Gives 150 #[.pointer (some ⟨b, 0, none⟩)] (fun x => !(blt x.s n)) w0 := by
  intro x w hb
  obtain ⟨s, i⟩ := x
  have c1 := (hb.cell (p := ⟨b, 0, none⟩) hlt).trans hc
  have hbs := hb.size
  have hb2 : b < w.heap.size := by omega
  have HB := Lib.hid ((Below.refl w.heap.size w).alloc (Nat.le_refl _) (.cells #[.string s, .int .i64 i] 77 (0, 0)))
  unfold env
  simp only
  show Calls Tryz.prog 150 #[.agg #[.string s, .int .i64 i], .pointer (some ⟨b, 0, none⟩)] w _
  clear hb hc hlt hbs
  go_enter Tryz.func150, Tryz.ntmps150
  go_wp2_with (fail)
  go_ret
  exact ⟨rfl, HB.out⟩
/-- What Find answers. -/
theorem IxO.fix {L : List En} {n : ByteArray} {r : Int} (h : IxO (fun x => !(blt x.s n)) L r) : (r = -1 ∧ efix L n = L.length) ∨ (efix L n < L.length ∧ r = (efix L n : Int)) := by
  rcases h with ⟨rfl, h⟩ | ⟨k, hk, rfl, h, e⟩
  · refine .inl ⟨rfl, LowTo.none fun j hj => ?_⟩
    have := h j hj
    simpa using this
  · have hl : LowTo L n k := fun j hj => by
      have := h j hj
      simpa using this
    have hf := hl.here hk (by simpa using e)
    refine .inr ?_
    rw [hf]
    exact ⟨hk, rfl⟩
set_option maxHeartbeats 2000000 in
theorem find_any (a : Option Addr) (n c : Nat) (L : List En) (s : ByteArray) (w : World) (h : Ens w a n L) (hn : n ≤ 1000000000000) :
    Calls Tryz.prog 132 #[.slice a n c, .string s] w fun e w' => e = .returned (.tuple #[.int .i64 (efix L s), .bool (ehas L s)]) ∧ Below w.heap.size w w' := by
  have hl := h.len
  subst hl
  have hb0 : Below w.heap.size w (w.alloc (.cells #[.string s] 9 (0, 0))) := (Below.refl _ _).alloc (Nat.le_refl _) _
  have hix := index_any _ #[.pointer (some ⟨w.heap.size, 0, none⟩)] enters_find _ (w.alloc (.cells #[.string s] 9 (0, 0))) (gives_find w.heap.size s _ (by simp) (by simp)) a L.length c L (h.next hb0) hn
  have HB := Lib.hid hb0
  have HH := Lib.hid h
  clear h hb0
  go_enter Tryz.func132, Tryz.ntmps132
  go_wp2_with (fail)
  refine hix.mono ?_
  rintro e w1 ⟨r, rfl, hr, hb1⟩
  have c1 := hb1.cell (p := ⟨w.heap.size, 0, none⟩) (by simp)
  rw [show (w.alloc (.cells #[.string s] 9 (0, 0))).cell? ⟨w.heap.size, 0, none⟩ = some (.string s) by simp] at c1
  have hB1 := HB.out.trans (hb1.mono HB.out.size)
  have HB1 := Lib.hid hB1
  have HH1 := HH.out.next hB1
  rcases hr.fix with ⟨rfl, hf⟩ | ⟨hf, rfl⟩
  · have hh := Lib.hid (ehas_none hf)
    have HF := Lib.hid hf
    clear hr hf HH1 c1 hb1 hB1 hix
    go_wp2_with (fail)
    go_ret2
    exact ⟨by rw [hh.out, HF.out]; rfl, HB1.out⟩
  · obtain ⟨b, off, rfl, hbl, hd1, hd2⟩ := HH1.at hf
    have hh := Lib.hid (ehas_at hf)
    obtain ⟨k, hk⟩ : ∃ k, efix L s = k := ⟨_, rfl⟩
    rw [hk] at hf hd1 hd2 hh ⊢
    have HK := Lib.hid hk
    have k1 : (k : Int) < (L.length : Int) := by omega
    have k0 : (0 : Int) ≤ (k : Int) := by omega
    clear hr hb1 hB1 hix HH1 hbl hd2 hk hf
    go_wp2_with (fail)
    go_quiet (fail)
    go_wp2_with (fail)
    go_ret2
    exact ⟨by rw [hh.out, HK.out]; rfl, below_drewN HB1.out _⟩

theorem ehas_low {L : List En} {s : ByteArray} {k : Nat} (h : LowTo L s k) (hk : k < L.length) (e : blt (eat L k).s s = false) : efix L s = k ∧ ehas L s = beqS (eat L k).s s := by
  have hf := h.here hk e
  refine ⟨hf, ?_⟩
  have := ehas_at (L := L) (n := s) (by omega)
  rwa [hf] at this
set_option maxHeartbeats 2000000 in
theorem rfind_any (a : Option Addr) (n c : Nat) (L : List En) (s : ByteArray) (w : World) (h : Ens w a n L) (hn : n ≤ 1000000000000) :
    Calls Tryz.prog 117 #[.slice a n c, .string s] w fun e w' => e = .returned (.tuple #[.int .i64 (efix L s), .bool (ehas L s)]) ∧ Below w.heap.size w w' := by
  have hl := h.len
  subst hl
  have HH := Lib.hid h
  clear h
  go_enter Tryz.func117, Tryz.ntmps117
  go_wp2_with (fail)
  go_loopw [6] (fun v wr => ∃ k : Nat, k ≤ L.length ∧ v = .int .i64 k ∧ wr = w ∧ LowTo L s k) (fun v _ => L.length - (RowKit.intOf v).toNat)
  case atStart => exact ⟨0, by omega, rfl, rfl, LowTo.zero _ _⟩
  case round =>
    obtain ⟨k, hk, rfl, rfl, hI⟩ := hrel
    have HI := Lib.hid hI
    clear hI
    by_cases hlt : k < L.length
    · have k1 : (k : Int) < (L.length : Int) := by omega
      have k0 : (0 : Int) ≤ (k : Int) := by omega
      obtain ⟨b, off, rfl, hbl, hd1, hd2⟩ := HH.out.at hlt
      clear hbl hd2
      cases hbt : Op.bytesLess (eat L k).s.toList s.toList with
      | true =>
        have hbt' : blt (eat L k).s s = true := hbt
        have HBT := Lib.hid hbt'
        clear hbt'
        go_wp2_with (fail)
        go_roundw
        case rel => exact ⟨k + 1, by omega, by go_num, trivial, HI.out.succ HBT.out⟩
        case measure => simp [RowKit.intOf]; omega
      | false =>
        obtain ⟨e1, e2⟩ := ehas_low HI.out hlt hbt
        have E1 := Lib.hid e1
        have E2 := Lib.hid e2
        clear e1 e2
        go_wp2_with (fail)
        go_quiet (fail)
        go_wp2_with (fail)
        go_ret2
        exact ⟨by rw [E1.out, E2.out]; rfl, below_drewN (Below.refl _ _) _⟩
    · obtain rfl : k = L.length := by omega
      have hf := HI.out.none
      have HF := Lib.hid hf
      have hh := Lib.hid (ehas_none hf)
      have k1 : ¬ (L.length : Int) < (L.length : Int) := by omega
      clear hf
      go_wp2_with (fail)
      go_quiet (fail)
      go_wp2_with (fail)
      go_ret2
      exact ⟨by rw [HF.out, hh.out]; rfl, below_drewN (Below.refl _ _) _⟩
end Go.Proofs.YtinholnidchblaaGreatDoor

/-
  Copies of entries, their comparison, their weight; by contract.
-/
namespace Go.Proofs.YtinholnidchblaaGreatDoor
open Go.RowKit
set_option linter.unusedVariables false
set_option linter.unusedSimpArgs false

theorem clone_any (s : ByteArray) (w : World) (hs : s.size ≤ 281474976710656) : Calls Tryz.prog 59 #[.string s] w fun e w' => e = .returned (.string s) ∧ Below w.heap.size w w' := by
  have hc : Calls Tryz.prog 95 #[.string s] w fun e w' => e = .returned (.string s) ∧ Below w.heap.size w w' := Any.stringslite_Clone laysM316 s w hs
  go_enter Tryz.func59, Tryz.ntmps59
  go_wp2_with (fail)
  refine hc.mono ?_
  rintro e w' ⟨rfl, hb⟩
  go_wp2_with (fail)
  go_ret
  exact ⟨rfl, hb⟩
theorem take_snoc {L : List En} {k : Nat} (h : k < L.length) : L.take k ++ [eat L k] = L.take (k + 1) := by
  rw [List.take_add_one, eat_get h]; rfl
/-- No name is too long for the library. -/
def Fit (L : List En) : Prop := ∀ x ∈ L, x.s.size ≤ 1000000
theorem Fit.at {L : List En} (h : Fit L) {k : Nat} (hk : k < L.length) : (eat L k).s.size ≤ 281474976710656 := Nat.le_trans (h _ (eat_mem hk)) (by decide)
set_option maxHeartbeats 2000000 in
theorem copies_any (a : Option Addr) (n c : Nat) (L : List En) (w : World) (h : Ens w a n L) (hn : n ≤ 1000000) (hs : Fit L) :
    Calls Tryz.prog 146 #[.slice a n c] w fun e w' => ∃ v, e = .returned v ∧ OwnE w' w.heap.size v n L ∧ Below w.heap.size w w' := by
  have hl := h.len
  subst hl
  have HH := Lib.hid h
  have HS := Lib.hid hs
  clear h hs
  go_enter Tryz.func146, Tryz.ntmps146
  go_wp2_with (fail)
  go_loopw [3, 5, 8] (fun v3 _ v8 wr => ∃ k : Nat, k ≤ L.length ∧ v8 = .int .i64 k ∧ OwnE wr w.heap.size v3 k (L.take k) ∧ Below w.heap.size w wr) (fun _ _ v _ => L.length - (RowKit.intOf v).toNat)
  case atStart => exact ⟨0, by omega, rfl, ownE_nil _ _, Below.refl _ _⟩
  case round =>
    obtain ⟨k, hk, rfl, hO, hB⟩ := hrel
    have HB := Lib.hid hB
    have HO := Lib.hid hO
    by_cases hlt : k < L.length
    · have k1 : (k : Int) < (L.length : Int) := by omega
      have k0 : (0 : Int) ≤ (k : Int) := by omega
      obtain ⟨b, off, rfl, hbl, hd1, hd2⟩ := (HH.out.next hB).at hlt
      have hcl := clone_any (eat L k).s (wr.alloc (.cells #[.string (eat L k).s, .int .i64 (eat L k).i] 77 (0, 0))) (HS.out.at hlt)
      obtain ⟨va, vc, rfl, _, _, _, _, hlo⟩ := hO.ens
      clear hO hB hlo hbl
      go_wp2_with (fail)
      refine hcl.mono ?_
      rintro e w2 ⟨rfl, hb2⟩
      have hb1 : Below wr.heap.size wr (wr.alloc (.cells #[.string (eat L k).s, .int .i64 (eat L k).i] 77 (0, 0))) := (Below.refl _ _).alloc (Nat.le_refl _) _
      have hbw : Below wr.heap.size wr w2 := hb1.trans (hb2.mono hb1.size)
      have c0 := hb2.cell (p := ⟨wr.heap.size, 0, none⟩) (by simp)
      have c1 := hb2.cell (p := ⟨wr.heap.size, 1, none⟩) (by simp)
      have f0 := hb2.frozen (p := ⟨wr.heap.size, 0, none⟩) (by simp)
      rw [show (wr.alloc (.cells #[.string (eat L k).s, .int .i64 (eat L k).i] 77 (0, 0))).cell? ⟨wr.heap.size, 0, none⟩ = some (.string (eat L k).s) by simp] at c0
      rw [show (wr.alloc (.cells #[.string (eat L k).s, .int .i64 (eat L k).i] 77 (0, 0))).cell? ⟨wr.heap.size, 1, none⟩ = some (.int .i64 (eat L k).i) by simp] at c1
      rw [show (wr.alloc (.cells #[.string (eat L k).s, .int .i64 (eat L k).i] 77 (0, 0))).frozen? ⟨wr.heap.size, 0, none⟩ = false by simp] at f0
      have hb3 : Below wr.heap.size wr ((w2.setCell ⟨wr.heap.size, 0, none⟩ (.string (eat L k).s)).alloc (.cells #[.string (eat L k).s, .int .i64 (eat L k).i] 77 (0, 0))) :=
        (hbw.setCell (p := ⟨wr.heap.size, 0, none⟩) (Nat.le_refl _) _).alloc (by simpa using hbw.size) _
      have HO3 := Lib.hid (HO.out.next hb3)
      have HB3 := Lib.hid (HB.out.trans (hb3.mono HB.out.size))
      have HM := Lib.hid (ens_one (w := w2.setCell ⟨wr.heap.size, 0, none⟩ (.string (eat L k).s)) (g := w2.heap.size) (eat L k).s (eat L k).i (by simp))
      have hsz : w.heap.size ≤ w2.heap.size + 1 := by have := HB.out.size; have := hbw.size; omega
      clear hb1 hb2 hbw hb3 hcl
      go_wp2_with (at_builtin; go_must (refine wpList_ape rfl (.tmp 16) (.tmp 18) rfl w.heap.size _ k (L.take k) rfl HO3.out (some ⟨w2.heap.size, 0, none⟩) 1 1 [eat L k] rfl HM.out (fun h => by cases h) (by omega) (by simpa using hsz) w HB3.out ?_); intro v4 w4 ho4 hb4)
      rw [take_snoc hlt] at ho4
      have HO4 := Lib.hid ho4
      have HB4 := Lib.hid hb4
      clear ho4 hb4
      go_roundw
      case rel => exact ⟨k + 1, by omega, by go_num, HO4.out, HB4.out⟩
      case measure => simp [RowKit.intOf]; omega
    · obtain rfl : k = L.length := by omega
      have k1 : ¬ (L.length : Int) < (L.length : Int) := by omega
      rw [List.take_of_length_le (Nat.le_refl _)] at hO
      have HO2 := Lib.hid hO
      clear hO hB
      go_wp2_with (fail)
      go_ret
      exact ⟨_, rfl, HO2.out, HB.out⟩
end Go.Proofs.YtinholnidchblaaGreatDoor

/-
  The reference's copy and comparison of entries, the statements' bound; by contract.
-/
namespace Go.Proofs.YtinholnidchblaaGreatDoor
open Go.RowKit
set_option linter.unusedVariables false
set_option linter.unusedSimpArgs false

set_option maxHeartbeats 1000000 in
theorem copyE_any (a : Option Addr) (n c : Nat) (L : List En) (w : World) (h : Ens w a n L) (hn : n ≤ 1000000) (hz : a = none → n = 0 ∧ c = 0) :
    Calls Tryz.prog 35 #[.slice a n c] w fun e w' => ∃ v, e = .returned v ∧ OwnE w' w.heap.size v n L ∧ Below w.heap.size w w' := by
  have HH := Lib.hid (h.alloc (.cells #[] 77))
  have HO := Lib.hid (ownE_none w w.heap.size (Nat.le_refl _))
  have HB := Lib.hid ((Below.refl w.heap.size w).alloc (Nat.le_refl _) (.cells #[] 77))
  have HZ := Lib.hid hz
  clear h hz
  go_enter Tryz.func35, Tryz.ntmps35
  go_wp2_with (at_builtin; go_must (refine wpList_ape rfl (.tmp 5) (.tmp 6) rfl w.heap.size _ 0 [] rfl HO.out a n c L rfl HH.out HZ.out (by omega) (by simp) w HB.out ?_); intro v4 w4 ho4 hb4)
  rw [Nat.zero_add, List.nil_append] at ho4
  have HO4 := Lib.hid ho4
  have HB4 := Lib.hid hb4
  clear ho4 hb4
  go_wp2_with (fail)
  go_ret
  exact ⟨_, rfl, HO4.out, HB4.out⟩

/-- Are they the same entries? -/
def sameE (x y : List En) : Bool := decide (x = y)
theorem sameE_len {x y : List En} (h : x.length ≠ y.length) : sameE x y = false := decide_eq_false fun e => h (by rw [e])
theorem sameE_at {x y : List En} {i : Nat} (h : eat x i ≠ eat y i) : sameE x y = false := decide_eq_false fun e => h (by rw [e])
/-- The first k entries are alike. -/
def FrontE (x y : List En) (k : Nat) : Prop := ∀ j, j < k → eat x j = eat y j
theorem FrontE.zero (x y : List En) : FrontE x y 0 := fun _ h => by omega
theorem FrontE.succ {x y : List En} {k : Nat} (h : FrontE x y k) (e : eat x k = eat y k) : FrontE x y (k + 1) := fun j hj => by
  by_cases hk : j = k
  · rw [hk]; exact e
  · exact h j (by omega)
theorem FrontE.all {x y : List En} {n : Nat} (hx : x.length = n) (hy : y.length = n) (h : FrontE x y n) : sameE x y = true :=
  decide_eq_true (eat_ext (by omega) fun i hi => h i (by omega))
set_option maxHeartbeats 2000000 in
theorem sameE_any (a b : Option Addr) (n m ca cb : Nat) (x y : List En) (w : World) (hx : Ens w a n x) (hy : Ens w b m y) (hn : n ≤ 1000000000000) (hm : m ≤ 1000000000000) :
    Calls Tryz.prog 44 #[.slice a n ca, .slice b m cb] w fun e w' => e = .returned (.bool (sameE x y)) ∧ Below w.heap.size w w' := by
  by_cases hl : n = m
  · subst hl
    have HX := Lib.hid hx
    have HY := Lib.hid hy
    clear hx hy
    go_enter Tryz.func44, Tryz.ntmps44
    go_wp2_with (fail)
    go_loopw [5] (fun v wr => ∃ k q : Nat, k ≤ n ∧ v = .int .i64 k ∧ wr = w.drewN q ∧ FrontE x y k) (fun v _ => n - (RowKit.intOf v).toNat)
    case atStart => exact ⟨0, 0, by omega, rfl, rfl, FrontE.zero _ _⟩
    case round =>
      obtain ⟨k, q, hk, rfl, rfl, hF⟩ := hrel
      have HF := Lib.hid hF
      clear hF
      by_cases hlt : k < n
      · have k1 : (k : Int) < (n : Int) := by omega
        have k0 : (0 : Int) ≤ (k : Int) := by omega
        obtain ⟨b1, o1, rfl, _, x1, x2⟩ := HX.out.at hlt
        obtain ⟨b2, o2, rfl, _, y1, y2⟩ := HY.out.at hlt
        obtain ⟨s1, e1⟩ : ∃ s, (eat x k).s = s := ⟨_, rfl⟩
        obtain ⟨s2, e2⟩ : ∃ s, (eat y k).s = s := ⟨_, rfl⟩
        obtain ⟨i1, e3⟩ : ∃ s, (eat x k).i = s := ⟨_, rfl⟩
        obtain ⟨i2, e4⟩ : ∃ s, (eat y k).i = s := ⟨_, rfl⟩
        rw [e1] at x1
        rw [e3] at x2
        rw [e2] at y1
        rw [e4] at y2
        have E1 := Lib.hid e1
        have E2 := Lib.hid e2
        have E3 := Lib.hid e3
        have E4 := Lib.hid e4
        clear e1 e2 e3 e4
        cases hs : (s1.toList == s2.toList) with
        | true =>
          have hse := Lib.hid (beqS_iff.1 (show beqS s1 s2 = true from hs))
          cases hi : (i1 == i2) with
          | true =>
            have hie := Lib.hid (beq_iff_eq.1 hi)
            go_wp2_with (fail)
            go_quiet (fail)
            go_wp2_with (fail)
            go_roundw
            case rel => exact ⟨k + 1, q + nq, by omega, by go_num, by rw [← World.drewN_drewN], HF.out.succ (En.ext' (by rw [E1.out, E2.out, hse.out]) (by rw [E3.out, E4.out, hie.out]))⟩
            case measure => simp [RowKit.intOf]; omega
          | false =>
            have hie := Lib.hid (beq_eq_false_iff_ne.1 hi)
            go_wp2_with (fail)
            go_quiet (fail)
            go_wp2_with (fail)
            go_ret
            exact ⟨by rw [sameE_at (i := k) (fun e => hie.out (by rw [← E3.out, ← E4.out, e]))]; rfl, below_drewN (below_drewN (Below.refl _ _) _) _⟩
        | false =>
          have hse := Lib.hid (show s1 ≠ s2 from fun e => by rw [e] at hs; have h2 : beqS s2 s2 = false := hs; rw [beqS_refl] at h2; cases h2)
          go_wp2_with (fail)
          go_quiet (fail)
          go_wp2_with (fail)
          go_ret
          exact ⟨by rw [sameE_at (i := k) (fun e => hse.out (by rw [← E1.out, ← E2.out, e]))]; rfl, below_drewN (below_drewN (Below.refl _ _) _) _⟩
      · obtain rfl : k = n := by omega
        have k1 : ¬ (k : Int) < (k : Int) := by omega
        have hr := Lib.hid (FrontE.all HX.out.len HY.out.len HF.out)
        go_wp2_with (fail)
        go_ret
        exact ⟨by rw [hr.out]; rfl, below_drewN (Below.refl _ _) _⟩
  · have hr := Lib.hid (sameE_len (x := x) (y := y) (by rw [hx.len, hy.len]; exact hl))
    have hne : ((n : Int) != (m : Int)) = true := by simp; omega
    clear hx hy
    go_enter Tryz.func44, Tryz.ntmps44
    go_wp2_with (fail)
    go_ret
    exact ⟨by rw [hr.out]; rfl, Below.refl _ _⟩

/-- How many bytes the names have. -/
def wei : List En → Nat
  | [] => 0
  | x :: r => x.s.size + wei r
theorem wei_snoc (L : List En) (x : En) : wei (L ++ [x]) = wei L + x.s.size := by
  induction L with
  | nil => simp [wei]
  | cons y L ih => simp [wei, ih]; omega
theorem wei_mem {L : List En} {x : En} (h : x ∈ L) : x.s.size ≤ wei L := by
  induction L with
  | nil => cases h
  | cons y L ih =>
    rcases List.mem_cons.1 h with rfl | h
    · simp [wei]
    · have := ih h
      simp [wei]; omega
theorem wei_take {L : List En} {k : Nat} (h : k ≤ L.length) : wei (L.take k) ≤ wei L := by
  have : L = L.take k ++ L.drop k := (List.take_append_drop k L).symm
  have e : ∀ (A B : List En), wei (A ++ B) = wei A + wei B := fun A B => by
    induction A with
    | nil => simp [wei]
    | cons y A ih => simp [wei, ih]; omega
  rw [this, e]
  simp
/-- What the statements let pass. -/
def Sml (L : List En) : Prop := L.length ≤ 300 ∧ wei L ≤ 10000
theorem Sml.fit {L : List En} (h : Sml L) : Fit L := fun x hx => Nat.le_trans (wei_mem hx) (Nat.le_trans h.2 (by decide))
def LongPost (w : World) (L : List En) (e : Ending) (w' : World) : Prop := ∃ r : Bool, e = .returned (.bool r) ∧ (r = false → Sml L) ∧ w' = w
end Go.Proofs.YtinholnidchblaaGreatDoor

/-
  Rows of entries written in place: copies within them, a row made longer by noughts; what the library's overlaps answers.
-/
namespace Go.Proofs.YtinholnidchblaaGreatDoor
open Go.RowKit
set_option linter.unusedVariables false
set_option linter.unusedSimpArgs false

/-- Block g holds these cells. -/
def RowE (w : World) (g : Nat) (cur : List Value) : Prop := w.heap[g]? = some (.cells cur.toArray 77 (0, 0))
theorem RowE.lt {w : World} {g : Nat} {cur : List Value} (h : RowE w g cur) : g < w.heap.size := lt_of_block h
theorem RowE.cell {w : World} {g : Nat} {cur : List Value} (h : RowE w g cur) {j : Nat} {u : Value} (hj : cur[j]? = some u) : w.cell? ⟨g, j, none⟩ = some u := by
  rw [cell_of_row w g j _ _ (0, 0) h]
  simpa using hj
theorem RowE.below {w w' : World} {g B : Nat} {cur : List Value} (h : RowE w g cur) (hb : Below B w w') (hB : g < B) : RowE w' g cur := (hb.block g hB).trans h
theorem RowE.next {w w' : World} {g : Nat} {cur : List Value} (h : RowE w g cur) (hb : Below w.heap.size w w') : RowE w' g cur := h.below hb h.lt
theorem RowE.drew {w : World} {g : Nat} {cur : List Value} (h : RowE w g cur) : RowE w.drew g cur := h
theorem RowE.own {w : World} {B g n c : Nat} {cur : List Value} {L : List En} (h : RowE w g cur) (hB : B ≤ g) (hn : n ≤ c) (hc : c ≤ maxLen) (hs : cur.length = c * 2) (hl : L.length = n) (ht : cur.take (n * 2) = L.flatMap ecl) : OwnE w B (.slice (some ⟨g, 0, none⟩) n c) n L :=
  ⟨by rw [eflat_len, hl], .inr ⟨g, c, cur.toArray, rfl, hB, h, hn, hc, by simpa using hs, by simpa using ht⟩⟩
theorem OwnE.row {w : World} {B n : Nat} {v : Value} {L : List En} (h : OwnE w B v n L) (hn : 0 < n) : ∃ g c cur, v = .slice (some ⟨g, 0, none⟩) n c ∧ RowE w g cur ∧ B ≤ g ∧ n ≤ c ∧ c ≤ maxLen ∧ cur.length = c * 2 ∧ cur.take (n * 2) = L.flatMap ecl := by
  rcases h.2 with ⟨rfl, rfl⟩ | ⟨g, cap, cur, rfl, hb, hg, hnc, hm, hsz, htake⟩
  · omega
  · exact ⟨g, cap, cur.toList, rfl, by unfold RowE; simpa using hg, hb, hnc, hm, by simpa using hsz, htake⟩
/-- What a copy turns: block g alone. -/
structure Laid (w w' : World) (g : Nat) (cur : List Value) : Prop where
  row : RowE w' g cur
  oth : ∀ k, k ≠ g → w'.heap[k]? = w.heap[k]?
  bel : ∀ B w0, B ≤ g → Below B w0 w → Below B w0 w'
theorem run_copyE (w : World) (ty : TypeId) (g o dLen dCap : Nat) (a : Addr) (sLen sCap : Nat) (cur cs : List Value) (k : Nat) (hg : RowE w g cur) (hk : k = Nat.min sLen dLen) (hn : cs.length = k * 2)
    (hsrc : ∀ j v, cs[j]? = some v → w.cell? (a.add j) = some v) (hfit : o + cs.length ≤ cur.length) (h1 : ∀ v ∈ cs, v.oneCell' = true) :
    (Builtin.copy_ #[52, 52] ty #[.slice (some ⟨g, o, none⟩) dLen dCap, .slice (some a) sLen sCap]).run Tryz.prog w = .ok (goInt k) (w.setRow g (splice cur o cs).toArray) := by
  obtain ⟨i0, hi, hz0, hz1, hz2⟩ := info_parts infoE
  have hl := run_loadCells_list (P := Tryz.prog) w a cs hsrc
  have hst := run_storeCells_at Tryz.prog g o _ cs 0 cur.toArray w hg (by simpa using hfit) h1
  rw [hn] at hl
  subst hk
  simp [Builtin.copy_, run_underlying Tryz.underlying52, Builtin.lenOf, Builtin.firstCells, sizeOf, typeInfo, hi, hz1, hl, hst, splice]
theorem laid_copy {w : World} {g o : Nat} {cur cs : List Value} (hg : RowE w g cur) : Laid w (w.setRow g (splice cur o cs).toArray) g (splice cur o cs) :=
  ⟨setRow_heap w g _ _ _ _ hg, fun k hk => setRow_other w g k _ hk, fun B w0 hB hb => hb.trans ⟨rfl, rfl, rfl, by simp [World.setRow], fun k hk => setRow_other w g k _ (by omega)⟩⟩
theorem wpList_copyE {w : World} {ops : Array Oper} {rest : List Oper} {o : Oper} {a : Act} {Q : Exit → Act → World → Prop} (hgd : o.guard = none) (d s : Operand)
    (ho : o.op = .call { callee := .builtin .copy, args := #[d, s], argTypes := #[52, 52] }) (g p dLen dCap : Nat) (ad : Addr) (sLen sCap : Nat) (hd : a.eval d = .slice (some ⟨g, p, none⟩) dLen dCap) (hs : a.eval s = .slice (some ad) sLen sCap)
    (cur cs : List Value) (k : Nat) (hg : RowE w g cur) (hk : k = Nat.min sLen dLen) (hn : cs.length = k * 2) (hsrc : ∀ j v, cs[j]? = some v → w.cell? (ad.add j) = some v) (hfit : p + cs.length ≤ cur.length) (h1 : ∀ v ∈ cs, v.oneCell' = true)
    (h : ∀ w', Laid w w' g (splice cur p cs) → wpList Tryz.prog ops Q rest (a.put o.dst (goInt k)) w') : wpList Tryz.prog ops Q (o :: rest) a w := by
  refine wpList_plain hgd fun K hK => ?_
  have hrun := run_copyE w o.type g p dLen dCap ad sLen sCap cur cs k hg hk hn hsrc hfit h1
  unfold Oper.wp
  simp [execOp, ho, resolve, invoke, builtin, hd, hs, hrun, Result.andThen]
  exact hK _ _ (h _ (laid_copy hg))
theorem step_copyE {ops : Array Oper} {o : Oper} {a : Act} {w : World} {K : Act → World → Prop} {Q : Exit → Act → World → Prop} {E : Prop} (hgd : o.guard = none) (d s : Operand)
    (ho : o.op = .call { callee := .builtin .copy, args := #[d, s], argTypes := #[52, 52] }) (g p dLen dCap : Nat) (ad : Addr) (sLen sCap : Nat) (hd : a.eval d = .slice (some ⟨g, p, none⟩) dLen dCap) (hs : a.eval s = .slice (some ad) sLen sCap)
    (cur cs : List Value) (k : Nat) (hg : RowE w g cur) (hk : k = Nat.min sLen dLen) (hn : cs.length = k * 2) (hsrc : ∀ j v, cs[j]? = some v → w.cell? (ad.add j) = some v) (hfit : p + cs.length ≤ cur.length) (h1 : ∀ v ∈ cs, v.oneCell' = true)
    (h : ∀ w', Laid w w' g (splice cur p cs) → K (a.put o.dst (goInt k)) w') :
    if Region.wanted o (yielded ops a.tmps) = true then Oper.wp Tryz.prog o a w K Q else E := by
  have hw : Region.wanted o (yielded ops a.tmps) = true := by simp [Region.wanted, hgd]
  rw [if_pos hw]
  have hrun := run_copyE w o.type g p dLen dCap ad sLen sCap cur cs k hg hk hn hsrc hfit h1
  unfold Oper.wp
  simp [execOp, ho, resolve, invoke, builtin, hd, hs, hrun, Result.andThen]
  exact h _ (laid_copy hg)
/-- 'append(s[:i], make(..)...)' where there is no room: a new row. -/
theorem wpList_apz {w : World} {ops : Array Oper} {rest : List Oper} {o : Oper} {a : Act} {Q : Exit → Act → World → Prop} (hgd : o.guard = none) (s x : Operand)
    (ho : o.op = .call { callee := .builtin .append, args := #[s, x], argTypes := #[52, 3] }) (g i c k : Nat) (hs : a.eval s = .slice (some ⟨g, 0, none⟩) i c) (hx : a.eval x = .int .i64 k)
    (olds : List Value) (hl : olds.length = i * 2) (hold : ∀ j v, olds[j]? = some v → w.cell? ⟨g, j, none⟩ = some v) (h0 : 0 < k) (m : Nat) (hm : i + k = m) (hroom : c < m) (hbig : m ≤ 1000000000)
    (h : ∀ (C : Nat) (cur : List Value) (w' : World), m ≤ C → C ≤ maxLen → RowE w' w.heap.size cur → cur.length = C * 2 → cur.take (i * 2) = olds → (∀ j, j < w.heap.size → w'.heap[j]? = w.heap[j]?) → (∀ B w0, B ≤ w.heap.size → Below B w0 w → Below B w0 w') →
      wpList Tryz.prog ops Q rest (a.put o.dst (.slice (some ⟨w.heap.size, 0, none⟩) m C)) w') : wpList Tryz.prog ops Q (o :: rest) a w := by
  subst hm
  obtain ⟨i0, hi, hz0, hz1, hz2⟩ := info_parts infoE
  have hf : (Builtin.firstCells i0.size i (.slice (some ⟨g, 0, none⟩) i c)).run Tryz.prog w.drew = .ok olds.toArray w.drew := by
    rw [hz1]
    exact run_firstCells_some w.drew 2 i ⟨g, 0, none⟩ i c olds hl (fun j v hj => by rw [add_e, Nat.zero_add]; exact hold j v hj)
  have hr := Lib.run_append_grow_zeros w 52 3 o.type 77 i0 _ .i64 .i64 Tryz.underlying52 Tryz.underlying3 hi hz0 (some ⟨g, 0, none⟩) i c olds hf k h0 (by rw [hz1]; decide) hroom (by omega) (by rw [hz2]; omega) (by rw [hz2]; exact growslice_fits hroom (by omega))
  refine Lib.wpList_append_run w hgd s x _ _ ho _ _ hs hx _ _ hr ?_
  obtain ⟨C, hC⟩ : ∃ C, C = grownCap w (i + k) c 77 := ⟨_, rfl⟩
  have hC1 : i + k ≤ C := by rw [hC]; exact grownCap_ge w _ _ _
  have hC2 : C ≤ maxLen := by rw [hC]; exact grownCap_le_maxLen w _ _ _ (by unfold maxLen; omega)
  rw [← hC]
  have hz : ∀ m, (Builtin.zeroCells (Value.agg #[.string ByteArray.empty, .int .i64 0]).cells m).size = m * 2 := fun m => size_zeroCells _ m
  obtain ⟨ROW, hROW⟩ : ∃ ROW : Array Value, ROW = olds.toArray ++ Builtin.zeroCells (Value.agg #[.string ByteArray.empty, .int .i64 0]).cells k ++ Builtin.zeroCells (Value.agg #[.string ByteArray.empty, .int .i64 0]).cells (C - (i + k)) := ⟨_, rfl⟩
  rw [← hROW]
  refine h C ROW.toList _ hC1 hC2 (by unfold RowE; rw [Array.toArray_toList]; exact heap_alloc_new w.drew _) ?_ ?_ (fun j hj => ?_) (fun B w0 hB hb => ?_)
  · rw [hROW, Array.length_toList, Array.size_append, Array.size_append, hz, hz]
    simp [hl]
    omega
  · rw [hROW, ← hl]
    simp
  · exact (((Below.refl w.heap.size w.drew).alloc (Nat.le_refl _) _).block j hj)
  · exact (hb.trans ⟨rfl, rfl, rfl, Nat.le_refl _, fun _ _ => rfl⟩ : Below B w0 w.drew).alloc hB _
/-- The library's overlaps: of two slices in two blocks, no. -/
theorem overlaps_no {w : World} {g vb p : Nat} {cur cv : List Value} (hg : RowE w g cur) (hv : RowE w vb cv) (hne : vb ≠ g) (h0 : cur.length ≠ 0) (l c lb cb : Nat) :
    (callFunc 159 #[.slice (some ⟨vb, 0, none⟩) l c, .slice (some ⟨g, p, none⟩) lb cb]).run Tryz.prog w = .ok (.value (.bool false)) w := by
  obtain ⟨i0, hi, hz0, hz1, hz2⟩ := info_parts infoE
  have hsz : ∀ w : World, (Go.sizeOf 77).run Tryz.prog w = .ok 2 w := fun w => by simp [sizeOf, typeInfo, hi, hz1]
  rw [run_callFunc_extern Tryz.func159 (by kernel_rfl) (by kernel_rfl) (by kernel_rfl) (e := Extern.SlicesOverlaps.overlaps #[52, 52] #[4]) (by kernel_rfl),
    Lib.run_overlaps_apart w 52 4 77 Tryz.underlying52 2 hsz ⟨vb, 0, none⟩ ⟨g, p, none⟩ l c lb cb hne 77 77 cv.toArray.size cur.toArray.size
      (by unfold World.shape?; rw [show w.heap[vb]? = _ from hv]) (by unfold World.shape?; rw [show w.heap[g]? = _ from hg]) (by simpa using h0) (frozen_of_row w vb _ _ _ hv) (frozen_of_row w vb _ _ _ hv)]
  rfl
end Go.Proofs.YtinholnidchblaaGreatDoor

/-
  slices.Insert of one entry into a row of the call's own, by contract.
-/
namespace Go.Proofs.YtinholnidchblaaGreatDoor
open Go.RowKit
set_option linter.unusedVariables false
set_option linter.unusedSimpArgs false

theorem sp_len {α : Type} {L : List α} {p : Nat} {cs : List α} (h : p + cs.length ≤ L.length) : (splice L p cs).length = L.length := length_splice L p cs h
theorem sp_take {α : Type} {L : List α} {p : Nat} {cs : List α} (h : p ≤ L.length) : (splice L p cs).take (p + cs.length) = L.take p ++ cs := by
  unfold splice
  rw [← List.append_assoc]
  exact List.take_left' (by rw [List.length_append, List.length_take]; omega)
theorem sp_low {α : Type} {L : List α} {p k : Nat} {cs : List α} (h : p ≤ L.length) (hk : k ≤ p) : (splice L p cs).take k = L.take k := by
  unfold splice
  rw [List.take_append_of_le_length (by rw [List.length_take]; omega), List.take_take, Nat.min_eq_left hk]
theorem sp_mid {α : Type} {L : List α} {p : Nat} {cs : List α} (h : p ≤ L.length) : ((splice L p cs).drop p).take cs.length = cs := by
  unfold splice
  rw [List.drop_left' (by rw [List.length_take]; omega)]
  exact List.take_left' rfl
theorem eflat_take (L : List En) (i : Nat) : (L.flatMap ecl).take (i * 2) = (L.take i).flatMap ecl := by
  rcases Nat.lt_or_ge i L.length with h | h
  · conv => lhs; rw [← List.take_append_drop i L, List.flatMap_append]
    exact List.take_left' (by rw [eflat_len, List.length_take]; omega)
  · rw [List.take_of_length_le (l := L) h, List.take_of_length_le (by rw [eflat_len]; omega)]
theorem row_front {cur : List Value} {L : List En} {n i : Nat} (ht : cur.take (n * 2) = L.flatMap ecl) (hi : i ≤ n) : cur.take (i * 2) = (L.take i).flatMap ecl := by
  rw [← eflat_take, ← ht, List.take_take, Nat.min_eq_left (by omega)]
/-- In place: first what is behind is moved, then the entry is laid. -/
theorem ins_place {cur : List Value} {L : List En} {n i c : Nat} {e : En} (hs : cur.length = c * 2) (hl : L.length = n) (ht : cur.take (n * 2) = L.flatMap ecl) (hi : i < n) (hc : n + 1 ≤ c) :
    (splice (splice cur ((i + 1) * 2) ((L.drop i).flatMap ecl)) (i * 2) (ecl e)).length = c * 2 ∧ (splice (splice cur ((i + 1) * 2) ((L.drop i).flatMap ecl)) (i * 2) (ecl e)).take ((n + 1) * 2) = (L.take i ++ e :: L.drop i).flatMap ecl := by
  have hd : ((L.drop i).flatMap ecl).length = (n - i) * 2 := by rw [eflat_len, List.length_drop, hl]
  have he : (ecl e).length = 2 := rfl
  obtain ⟨D, hD⟩ : ∃ D, D = (L.drop i).flatMap ecl := ⟨_, rfl⟩
  obtain ⟨X, hX⟩ : ∃ X, X = splice cur ((i + 1) * 2) D := ⟨_, rfl⟩
  rw [← hD] at hd ⊢
  rw [← hX]
  have hXl : X.length = c * 2 := by rw [hX, sp_len (by omega), hs]
  refine ⟨by rw [sp_len (by omega), hXl], ?_⟩
  have h1 : (splice X (i * 2) (ecl e)).take ((n + 1) * 2) = X.take (i * 2) ++ ecl e ++ (X.drop ((i + 1) * 2)).take ((n - i) * 2) := by
    unfold splice
    rw [← List.append_assoc, List.take_append, List.take_of_length_le (by rw [List.length_append, List.length_take]; omega)]
    congr 2
    · rw [List.length_append, List.length_take, he]; omega
    · rw [he]; congr 1; omega
  rw [h1, List.flatMap_append, List.flatMap_cons, ← hD, ← row_front ht (by omega), ← List.append_assoc]
  congr 1
  · rw [hX, sp_low (by omega) (by omega)]
  · have := sp_mid (L := cur) (p := (i + 1) * 2) (cs := D) (by omega)
    rw [hX, ← hd, this]
/-- In a new row: first the entry is laid, then what is behind. -/
theorem ins_grow {cur : List Value} {L : List En} {n i C : Nat} {e : En} (hs : cur.length = C * 2) (hl : L.length = n) (ht : cur.take (i * 2) = (L.take i).flatMap ecl) (hi : i < n) (hc : n + 1 ≤ C) :
    (splice (splice cur (i * 2) (ecl e)) ((i + 1) * 2) ((L.drop i).flatMap ecl)).length = C * 2 ∧ (splice (splice cur (i * 2) (ecl e)) ((i + 1) * 2) ((L.drop i).flatMap ecl)).take ((n + 1) * 2) = (L.take i ++ e :: L.drop i).flatMap ecl := by
  have hd : ((L.drop i).flatMap ecl).length = (n - i) * 2 := by rw [eflat_len, List.length_drop, hl]
  have he : (ecl e).length = 2 := rfl
  obtain ⟨D, hD⟩ : ∃ D, D = (L.drop i).flatMap ecl := ⟨_, rfl⟩
  obtain ⟨X, hX⟩ : ∃ X, X = splice cur (i * 2) (ecl e) := ⟨_, rfl⟩
  rw [← hD] at hd ⊢
  rw [← hX]
  have hXl : X.length = C * 2 := by rw [hX, sp_len (by omega), hs]
  refine ⟨by rw [sp_len (by omega), hXl], ?_⟩
  have h1 := sp_take (L := X) (p := (i + 1) * 2) (cs := D) (by omega)
  rw [show (i + 1) * 2 + D.length = (n + 1) * 2 by omega] at h1
  rw [h1, List.flatMap_append, List.flatMap_cons, ← hD, ← ht, ← List.append_assoc]
  congr 1
  have h2 := sp_take (L := cur) (p := i * 2) (cs := ecl e) (by omega)
  rw [hX, show (i + 1) * 2 = i * 2 + (ecl e).length by rw [he]; omega, h2]
/-- What Insert answers. -/
def InsPost (B : Nat) (w : World) (n : Nat) (L : List En) (e : Ending) (w' : World) : Prop := ∃ v', e = .returned v' ∧ OwnE w' B v' n L ∧ Below B w w'
theorem take_end {L : List En} {n : Nat} {e : En} (hl : L.length = n) : L.take n ++ e :: L.drop n = L ++ [e] := by
  rw [List.take_of_length_le (by omega), List.drop_of_length_le (by omega)]
theorem ecl_ens {w : World} {vb : Nat} {e : En} (hv : RowE w vb (ecl e)) : Ens w (some ⟨vb, 0, none⟩) 1 [e] :=
  ⟨rfl, .inr ⟨vb, 0, rfl, hv.lt, fun i hi => by
    rcases (by omega : i = 0) with rfl
    exact ⟨hv.cell rfl, hv.cell rfl⟩⟩⟩
set_option maxHeartbeats 4000000 in
/-- Behind all others. -/
theorem insert_end (B : Nat) (v : Value) (n vb : Nat) (L : List En) (e : En) (w : World) (ho : OwnE w B v n L) (hB : B ≤ w.heap.size) (hv : RowE w vb (ecl e)) (hbig : n ≤ 1000000) :
    Calls Tryz.prog 147 #[v, .int .i64 n, .slice (some ⟨vb, 0, none⟩) 1 1] w (InsPost B w (n + 1) (L.take n ++ e :: L.drop n)) := by
  rw [take_end ho.len]
  obtain ⟨a, c, rfl, hE, hnc, hcm, hz, hlo⟩ := ho.ens
  have HO := Lib.hid ho
  have HV := Lib.hid (ecl_ens hv)
  have HB := Lib.hid (Below.refl B w)
  clear ho hv hE hlo
  cases a with
  | none =>
    obtain ⟨rfl, rfl⟩ := hz rfl
    go_enter Tryz.func147, Tryz.ntmps147
    go_wp2_with (at_builtin; go_must (refine wpList_ape rfl (.tmp 23) (.tmp 24) rfl B _ 0 L rfl HO.out (some ⟨vb, 0, none⟩) 1 1 [e] rfl HV.out (fun h => by cases h) (by omega) hB w HB.out ?_); intro v4 w4 ho4 hb4)
    have HO4 := Lib.hid ho4
    have HB4 := Lib.hid hb4
    clear ho4 hb4
    go_wp2_with (fail)
    go_ret
    exact ⟨_, rfl, HO4.out, HB4.out⟩
  | some p =>
    have k0 : (0 : Int) ≤ (n : Int) := by omega
    have k1 : (n : Int) ≤ (n : Int) := by omega
    clear hz
    by_cases hcn : c = n
    · subst hcn
      go_enter Tryz.func147, Tryz.ntmps147
      go_wp2_with (at_builtin; go_must (refine wpList_ape rfl (.tmp 23) (.tmp 24) rfl B _ c L rfl HO.out (some ⟨vb, 0, none⟩) 1 1 [e] rfl HV.out (fun h => by cases h) (by omega) hB w HB.out ?_); intro v4 w4 ho4 hb4)
      have HO4 := Lib.hid ho4
      have HB4 := Lib.hid hb4
      clear ho4 hb4
      go_wp2_with (fail)
      go_ret
      exact ⟨_, rfl, HO4.out, HB4.out⟩
    · go_enter Tryz.func147, Tryz.ntmps147
      go_wp2_with (at_builtin; go_must (refine wpList_ape rfl (.tmp 23) (.tmp 24) rfl B _ n L rfl HO.out (some ⟨vb, 0, none⟩) 1 1 [e] rfl HV.out (fun h => by cases h) (by omega) hB w HB.out ?_); intro v4 w4 ho4 hb4)
      have HO4 := Lib.hid ho4
      have HB4 := Lib.hid hb4
      clear ho4 hb4
      go_wp2_with (fail)
      go_ret
      exact ⟨_, rfl, HO4.out, HB4.out⟩
set_option maxHeartbeats 4000000 in
/-- In the middle, where there is room. -/
theorem insert_shift (B g n c i vb : Nat) (cur : List Value) (L : List En) (e : En) (w : World) (hg : RowE w g cur) (hB : B ≤ g) (hnc : n ≤ c) (hcm : c ≤ maxLen) (hs : cur.length = c * 2) (hl : L.length = n) (ht : cur.take (n * 2) = L.flatMap ecl) (hv : RowE w vb (ecl e)) (hne : vb ≠ g) (hi : i < n) (hroom : n + 1 ≤ c) (hbig : n ≤ 1000000) :
    Calls Tryz.prog 147 #[.slice (some ⟨g, 0, none⟩) n c, .int .i64 i, .slice (some ⟨vb, 0, none⟩) 1 1] w (InsPost B w (n + 1) (L.take i ++ e :: L.drop i)) := by
  have hov := fun p => overlaps_no (p := p) hg hv hne (by omega : cur.length ≠ 0)
  have hE := (OwnE.ens (hg.own (B := B) hB hnc hcm hs hl ht))
  obtain ⟨_, _, hq, hE, _⟩ := hE
  cases hq
  have hEd := hE.drop (k := i)
  have hd : ((L.drop i).flatMap ecl).length = (n - i) * 2 := by rw [eflat_len, List.length_drop, hl]
  have HG := Lib.hid hg
  have HV := Lib.hid hv
  have HP := Lib.hid (ins_place (e := e) hs hl ht hi hroom)
  rw [Nat.zero_add] at hEd
  have HE := Lib.hid hEd
  have HE2 := Lib.hid (show ∀ j v, ((L.drop i).flatMap ecl)[j]? = some v → w.drew.cell? ((⟨g, i * 2, none⟩ : Addr).add j) = some v from fun j v hj => hEd.cells j v hj)
  have HT := Lib.hid (And.intro hB (And.intro hl (And.intro hs hd)))
  have HNE := Lib.hid hne
  have hcx : c ≤ 9223372036854775807 := by unfold maxLen at hcm; omega
  have v1 : IntKind.i64.wrap ((n : Int) + 1) = (n : Int) + 1 := IntWalk.i64_in _ (by omega)
  have v2 : IntKind.i64.wrap ((i : Int) + 1) = (i : Int) + 1 := IntWalk.i64_in _ (by omega)
  have k1 : ¬ (c : Int) < (n : Int) + 1 := by omega
  have k2 : ((i : Int) == (n : Int)) = false := beq_eq_false_iff_ne.2 (by omega)
  have k3 : (0 : Int) ≤ (i : Int) + 1 := by omega
  have k4 : (i : Int) + 1 ≤ (n : Int) + 1 := by omega
  have k5 : (i : Int) ≤ (n : Int) := by omega
  have k6 : (i : Int) ≤ (n : Int) + 1 := by omega
  have k7 : ¬ (c = i) := by omega
  have k8 : ¬ (c = i + 1) := by omega
  have k9 : (n : Int) + 1 ≤ (c : Int) := by omega
  have t1 : ((i : Int) + 1).toNat = i + 1 := by omega
  have t2 : ((n : Int) + 1).toNat = n + 1 := by omega
  clear hg hv hne ht hs hl hd hE hEd hB
  go_enter Tryz.func147, Tryz.ntmps147
  go_wp2_with (simp only [hov])
  go_region_law (refine step_copyE rfl (.tmp 73) (.tmp 76) rfl g ((i + 1) * 2) (n + 1 - (i + 1)) (c - (i + 1)) ⟨g, i * 2, none⟩ (n + 1 - i) (c - i) (by simp [Act.eval, Act.put]) (by simp [Act.eval, Act.put]) cur ((L.drop i).flatMap ecl) (n - i) HG.out.drew (by simp only [Nat.min_def]; split <;> omega) HT.out.2.2.2 HE2.out (by have := HT.out.2.2; omega) (eflat_one _) ?_; intro w1 hw1)
  have HV1 := Lib.hid (show RowE w1 vb (ecl e) from (hw1.oth vb HNE.out).trans HV.out)
  have HS1 := Lib.hid (show ∀ j v, (ecl e)[j]? = some v → w1.cell? ((⟨vb, 0, none⟩ : Addr).add j) = some v from fun j v hj => by rw [add_e, Nat.zero_add]; exact HV1.out.cell hj)
  have HW1 := Lib.hid hw1
  have hf2 : i * 2 + (ecl e).length ≤ (splice cur ((i + 1) * 2) ((L.drop i).flatMap ecl)).length := by
    have h1 := HT.out.2
    have h2 : (ecl e).length = 2 := rfl
    rw [sp_len (by omega)]
    omega
  have hmn : 1 = Nat.min 1 (n + 1 - i) := by simp only [Nat.min_def]; split <;> omega
  have HF2 := Lib.hid (And.intro hf2 hmn)
  clear hw1 hov hf2 hmn
  go_wp2_with ((with_reducible refine wpList_copyE rfl (.tmp 80) (.tmp 81) rfl g (i * 2) (n + 1 - i) (c - i) ⟨vb, 0, none⟩ 1 1 rfl rfl _ (ecl e) 1 HW1.out.row HF2.out.2 rfl HS1.out HF2.out.1 (ecl_one e) ?_; intro w2 hw2))
  have HW2 := Lib.hid hw2
  clear hw2
  go_wp2_with (fail)
  go_ret
  have hd2 : (L.take i ++ e :: L.drop i).length = n + 1 := by rw [List.length_append, List.length_cons, List.length_take, List.length_drop, HT.out.2.1]; omega
  exact ⟨_, rfl, HW2.out.row.own HT.out.1 hroom hcm HP.out.1 hd2 HP.out.2, HW2.out.bel _ _ HT.out.1 (HW1.out.bel _ _ HT.out.1 (below_drewN (Below.refl B w) 1))⟩
theorem row_kept {w w2 : World} {vb : Nat} {cv : List Value} (hv : RowE w vb cv) (ho : ∀ j, j < w.heap.size → w2.heap[j]? = w.heap[j]?) (hl : vb < w.heap.size) : RowE w2 vb cv := (ho vb hl).trans hv
theorem row_src {w : World} {vb : Nat} {cv : List Value} (hv : RowE w vb cv) : ∀ j v, cv[j]? = some v → w.cell? ((⟨vb, 0, none⟩ : Addr).add j) = some v := fun j v hj => by
  rw [add_e, Nat.zero_add]; exact hv.cell hj
theorem grow_facts {i c C : Nat} {cur2 : List Value} {e : En} (hi : i < c) (hC1 : c + 1 ≤ C) (hC2 : C ≤ maxLen) (hl2 : cur2.length = C * 2) :
    i * 2 + (ecl e).length ≤ cur2.length ∧ 1 = Nat.min 1 (c + 1 - i) ∧ ¬ (C = i) ∧ ¬ (C = i + 1) ∧ C ≤ 9223372036854775807 := by
  have he2 : (ecl e).length = 2 := rfl
  refine ⟨by omega, by simp only [Nat.min_def]; split <;> omega, by omega, by omega, by unfold maxLen at hC2; omega⟩
set_option maxHeartbeats 4000000 in
/-- In the middle, where there is no room. -/
theorem insert_grow (B g n c i vb : Nat) (cur : List Value) (L : List En) (e : En) (w : World) (hg : RowE w g cur) (hB : B ≤ w.heap.size) (hnc : n ≤ c) (hcm : c ≤ maxLen) (hs : cur.length = c * 2) (hl : L.length = n) (ht : cur.take (n * 2) = L.flatMap ecl) (hv : RowE w vb (ecl e)) (hi : i < n) (hroom : ¬ n + 1 ≤ c) (hbig : n ≤ 1000000) :
    Calls Tryz.prog 147 #[.slice (some ⟨g, 0, none⟩) n c, .int .i64 i, .slice (some ⟨vb, 0, none⟩) 1 1] w (InsPost B w (n + 1) (L.take i ++ e :: L.drop i)) := by
  obtain rfl : c = n := by omega
  have hE := (OwnE.ens (hg.own (B := 0) (Nat.zero_le _) hnc hcm hs hl ht))
  obtain ⟨_, _, hq, hE, _⟩ := hE
  cases hq
  have hEd := hE.drop (k := i)
  rw [Nat.zero_add] at hEd
  have hd : ((L.drop i).flatMap ecl).length = (c - i) * 2 := by rw [eflat_len, List.length_drop, hl]
  have hcs : ∀ j v, ((L.take i).flatMap ecl)[j]? = some v → w.cell? ⟨g, j, none⟩ = some v := fun j v hj => by
    refine hg.cell ?_
    rw [← row_front ht (by omega : i ≤ c), List.getElem?_take] at hj
    split at hj
    · exact hj
    · cases hj
  have hti : ((L.take i).flatMap ecl).length = i * 2 := by rw [eflat_len, List.length_take]; omega
  have HG := Lib.hid hg
  have HV := Lib.hid hv
  have HEd := Lib.hid hEd
  have HCS := Lib.hid (And.intro hcs (And.intro hti (And.intro hl hd)))
  have HB := Lib.hid hB
  have hcx : c ≤ 9223372036854775807 := by unfold maxLen at hcm; omega
  have v1 : IntKind.i64.wrap ((c : Int) + 1) = (c : Int) + 1 := IntWalk.i64_in _ (by omega)
  have v2 : IntKind.i64.wrap ((i : Int) + 1) = (i : Int) + 1 := IntWalk.i64_in _ (by omega)
  have v3 : IntKind.i64.wrap ((c : Int) + 1 - (i : Int)) = ((c + 1 - i : Nat) : Int) := (IntWalk.i64_in _ (by omega)).trans (by omega)
  have k1 : (c : Int) < (c : Int) + 1 := by omega
  have k2 : ((i : Int) == (c : Int)) = false := beq_eq_false_iff_ne.2 (by omega)
  have k3 : (0 : Int) ≤ (i : Int) + 1 := by omega
  have k4 : (i : Int) + 1 ≤ (c : Int) + 1 := by omega
  have k5 : (i : Int) ≤ (c : Int) := by omega
  have k6 : (i : Int) ≤ (c : Int) + 1 := by omega
  have k7 : ¬ (c = i) := by omega
  have t1 : ((i : Int) + 1).toNat = i + 1 := by omega
  clear hg hv ht hs hl hd hE hEd hB hcs hti hroom hnc
  go_enter Tryz.func147, Tryz.ntmps147
  go_wp2_with (first
    | (at_builtin
       go_must (refine wpList_apz rfl (.tmp 34) (.tmp 39) rfl g i c (c + 1 - i) rfl rfl ((L.take i).flatMap ecl) HCS.out.2.1 HCS.out.1 (by omega) (c + 1) (by omega) (by omega) (by omega) ?_)
       intro C cur2 w2 hC1 hC2 hr2 hl2 ht2 ho2 hb2
       have hgl := HG.out.lt
       have hvl := HV.out.lt
       have HS2 := Lib.hid (row_src (row_kept HV.out ho2 hvl))
       have hX := grow_facts (e := e) hi hC1 hC2 hl2
       have HX := Lib.hid (And.intro hX.1 (And.intro hX.2.1 (And.intro hl2 (And.intro ht2 (And.intro ho2 (And.intro hb2 (And.intro hgl hvl)))))))
       have hcC := hX.2.2.1
       have hcC1 := hX.2.2.2.1
       have hCx := hX.2.2.2.2
       have HR2 := Lib.hid hr2
       clear hgl hvl hl2 ht2 ho2 hb2 hX hr2)
    | (with_reducible refine wpList_copyE rfl (.tmp 43) (.tmp 44) rfl w.heap.size (i * 2) (c + 1 - i) (C - i) ⟨vb, 0, none⟩ 1 1 rfl rfl _ (ecl e) 1 HR2.out HX.out.2.1 rfl HS2.out HX.out.1 (ecl_one e) ?_
       intro w3 hw3))
  have HS3 := Lib.hid (show ∀ j v, ((L.drop i).flatMap ecl)[j]? = some v → w3.drew.cell? ((⟨g, i * 2, none⟩ : Addr).add j) = some v from fun j v hj => by
    have h1 := HEd.out.cells j v hj
    have hgl := HX.out.2.2.2.2.2.2.1
    have h2 : w3.heap[g]? = w.heap[g]? := (hw3.oth g (by omega)).trans (HX.out.2.2.2.2.1 g hgl)
    have h3 : w3.cell? ((⟨g, i * 2, none⟩ : Addr).add j) = w.cell? ((⟨g, i * 2, none⟩ : Addr).add j) := World.cell?_of_block (by rw [add_e]; exact h2)
    exact h3.trans h1)
  have hmn3 : c - i = Nat.min (c - i) (c + 1 - (i + 1)) := by simp only [Nat.min_def]; split <;> omega
  have hf3 : (i + 1) * 2 + ((L.drop i).flatMap ecl).length ≤ (splice cur2 (i * 2) (ecl e)).length := by
    have h1 := HCS.out.2.2.2
    have h2 := HX.out.2.2.1
    have h3 : (ecl e).length = 2 := rfl
    rw [sp_len HX.out.1]
    omega
  have HW3 := Lib.hid hw3
  have HX3 := Lib.hid (And.intro hmn3 hf3)
  clear hw3 hmn3 hf3
  go_wp2_with (fail)
  go_region_law (refine step_copyE rfl (.tmp 50) (.tmp 53) rfl w.heap.size ((i + 1) * 2) (c + 1 - (i + 1)) (C - (i + 1)) ⟨g, i * 2, none⟩ (c - i) (c - i) (by simp [Act.eval, Act.put]) (by simp [Act.eval, Act.put]) (splice cur2 (i * 2) (ecl e)) ((L.drop i).flatMap ecl) (c - i) HW3.out.row.drew HX3.out.1 HCS.out.2.2.2 HS3.out HX3.out.2 (eflat_one _) ?_; intro w4 hw4)
  have HW4 := Lib.hid hw4
  clear hw4
  go_wp2_with (fail)
  go_ret
  have hd2 : (L.take i ++ e :: L.drop i).length = c + 1 := by rw [List.length_append, List.length_cons, List.length_take, List.length_drop, HCS.out.2.2.1]; omega
  have hP := ins_grow (e := e) HX.out.2.2.1 HCS.out.2.2.1 HX.out.2.2.2.1 hi hC1
  exact ⟨_, rfl, HW4.out.row.own HB.out hC1 hC2 hP.1 hd2 hP.2, HW4.out.bel _ _ HB.out (below_drewN (HW3.out.bel _ _ HB.out (HX.out.2.2.2.2.2.1 _ _ HB.out (Below.refl B w))) 1)⟩
end Go.Proofs.YtinholnidchblaaGreatDoor
