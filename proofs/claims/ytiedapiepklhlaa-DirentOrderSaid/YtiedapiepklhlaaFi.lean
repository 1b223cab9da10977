/-
  Find of the program and of the document, by contract.
-/
import Derived.Test.YtiedapiepklhlaaRr
namespace Go.Proofs.Ytiedapiepklhlaa
open Go.RowKit
set_option linter.unusedVariables false
set_option linter.unusedSimpArgs false

theorem enters_find (args : Array Value) (w : World) : (callFunc 30 args).run Try.prog w = .ok (.enter 30 args) w := enters_of (P := Try.prog) Try.func30 (by kernel_rfl) rfl args w
set_option maxHeartbeats 1000000 in
/-- Find's closure: is the entry's name not below n? -/
theorem gives_find (b : Nat) (n : ByteArray) (w0 : World) (hlt : b < w0.heap.size) (hc : w0.cell? ⟨b, 0, none⟩ = some (.string n)) : Gives 30 #[.pointer (some ⟨b, 0, none⟩)] (fun x => !(blt x.s n)) w0 := by
  intro x w hb
  obtain ⟨s, i⟩ := x
  have c1 := (hb.cell (p := ⟨b, 0, none⟩) hlt).trans hc
  have hbs := hb.size
  have hb2 : b < w.heap.size := by omega
  have HB := Lib.hid ((Below.refl w.heap.size w).alloc (Nat.le_refl _) (.cells #[.string s, .int .i64 i] 36 (0, 0)))
  unfold env
  simp only
  show Calls Try.prog 30 #[.agg #[.string s, .int .i64 i], .pointer (some ⟨b, 0, none⟩)] w _
  clear hb hc hlt hbs
  go_enter Try.func30, Try.ntmps30
  go_wp2_with (fail)
  go_ret
  exact ⟨rfl, HB.out⟩
/-- What Find answers. -/
theorem IxO.fix {L : List En} {n : ByteArray} {r : Int} (h : IxO (fun x => !(blt x.s n)) L r) : (r = -1 ∧ efix L n = L.length) ∨ (efix L n < L.length ∧ r = (efix L n : Int)) := by
  rcases h with ⟨rfl, h⟩ | ⟨k, hk, rfl, h, e⟩
  · refine .inl ⟨rfl, LowTo.none fun j hj => ?_⟩
    have := h j hj
    simpa using this
  · have hl : LowTo L n k := fun j hj => by
      have := h j hj
      simpa using this
    have hf := hl.here hk (by simpa using e)
    refine .inr ?_
    rw [hf]
    exact ⟨hk, rfl⟩
set_option maxHeartbeats 2000000 in
theorem find_any (a : Option Addr) (n c : Nat) (L : List En) (s : ByteArray) (w : World) (h : Ens w a n L) (hn : n ≤ 1000000000000) :
    Calls Try.prog 19 #[.slice a n c, .string s] w fun e w' => e = .returned (.tuple #[.int .i64 (efix L s), .bool (ehas L s)]) ∧ Below w.heap.size w w' := by
  have hl := h.len
  subst hl
  have hb0 : Below w.heap.size w (w.alloc (.cells #[.string s] 9 (0, 0))) := (Below.refl _ _).alloc (Nat.le_refl _) _
  have hix := index_any _ #[.pointer (some ⟨w.heap.size, 0, none⟩)] enters_find _ (w.alloc (.cells #[.string s] 9 (0, 0))) (gives_find w.heap.size s _ (by simp) (by simp)) a L.length c L (h.next hb0) hn
  have HB := Lib.hid hb0
  have HH := Lib.hid h
  clear h hb0
  go_enter Try.func19, Try.ntmps19
  go_wp2_with (fail)
  refine hix.mono ?_
  rintro e w1 ⟨r, rfl, hr, hb1⟩
  have c1 := hb1.cell (p := ⟨w.heap.size, 0, none⟩) (by simp)
  rw [show (w.alloc (.cells #[.string s] 9 (0, 0))).cell? ⟨w.heap.size, 0, none⟩ = some (.string s) by simp] at c1
  have hB1 := HB.out.trans (hb1.mono HB.out.size)
  have HB1 := Lib.hid hB1
  have HH1 := HH.out.next hB1
  rcases hr.fix with ⟨rfl, hf⟩ | ⟨hf, rfl⟩
  · have hh := Lib.hid (ehas_none hf)
    have HF := Lib.hid hf
    clear hr hf HH1 c1 hb1 hB1 hix
    go_wp2_with (fail)
    go_ret2
    exact ⟨by rw [hh.out, HF.out]; rfl, HB1.out⟩
  · obtain ⟨b, off, rfl, hbl, hd1, hd2⟩ := HH1.at hf
    have hh := Lib.hid (ehas_at hf)
    obtain ⟨k, hk⟩ : ∃ k, efix L s = k := ⟨_, rfl⟩
    rw [hk] at hf hd1 hd2 hh ⊢
    have HK := Lib.hid hk
    have k1 : (k : Int) < (L.length : Int) := by omega
    have k0 : (0 : Int) ≤ (k : Int) := by omega
    clear hr hb1 hB1 hix HH1 hbl hd2 hk hf
    go_wp2_with (fail)
    go_quiet (fail)
    go_wp2_with (fail)
    go_ret2
    exact ⟨by rw [hh.out, HK.out]; rfl, below_drewN HB1.out _⟩

theorem ehas_low {L : List En} {s : ByteArray} {k : Nat} (h : LowTo L s k) (hk : k < L.length) (e : blt (eat L k).s s = false) : efix L s = k ∧ ehas L s = beqS (eat L k).s s := by
  have hf := h.here hk e
  refine ⟨hf, ?_⟩
  have := ehas_at (L := L) (n := s) (by omega)
  rwa [hf] at this
set_option maxHeartbeats 2000000 in
theorem rfind_any (a : Option Addr) (n c : Nat) (L : List En) (s : ByteArray) (w : World) (h : Ens w a n L) (hn : n ≤ 1000000000000) :
    Calls Try.prog 20 #[.slice a n c, .string s] w fun e w' => e = .returned (.tuple #[.int .i64 (efix L s), .bool (ehas L s)]) ∧ Below w.heap.size w w' := by
  have hl := h.len
  subst hl
  have HH := Lib.hid h
  clear h
  go_enter Try.func20, Try.ntmps20
  go_wp2_with (fail)
  go_loopw [6] (fun v wr => ∃ k : Nat, k ≤ L.length ∧ v = .int .i64 k ∧ wr = w ∧ LowTo L s k) (fun v _ => L.length - (RowKit.intOf v).toNat)
  case atStart => exact ⟨0, by omega, rfl, rfl, LowTo.zero _ _⟩
  case round =>
    obtain ⟨k, hk, rfl, rfl, hI⟩ := hrel
    have HI := Lib.hid hI
    clear hI
    by_cases hlt : k < L.length
    · have k1 : (k : Int) < (L.length : Int) := by omega
      have k0 : (0 : Int) ≤ (k : Int) := by omega
      obtain ⟨b, off, rfl, hbl, hd1, hd2⟩ := HH.out.at hlt
      clear hbl hd2
      cases hbt : Op.bytesLess (eat L k).s.toList s.toList with
      | true =>
        have hbt' : blt (eat L k).s s = true := hbt
        have HBT := Lib.hid hbt'
        clear hbt'
        go_wp2_with (fail)
        go_roundw
        case rel => exact ⟨k + 1, by omega, by go_num, trivial, HI.out.succ HBT.out⟩
        case measure => simp [RowKit.intOf]; omega
      | false =>
        obtain ⟨e1, e2⟩ := ehas_low HI.out hlt hbt
        have E1 := Lib.hid e1
        have E2 := Lib.hid e2
        clear e1 e2
        go_wp2_with (fail)
        go_quiet (fail)
        go_wp2_with (fail)
        go_ret2
        exact ⟨by rw [E1.out, E2.out]; rfl, below_drewN (Below.refl _ _) _⟩
    · obtain rfl : k = L.length := by omega
      have hf := HI.out.none
      have HF := Lib.hid hf
      have hh := Lib.hid (ehas_none hf)
      have k1 : ¬ (L.length : Int) < (L.length : Int) := by omega
      clear hf
      go_wp2_with (fail)
      go_quiet (fail)
      go_wp2_with (fail)
      go_ret2
      exact ⟨by rw [HF.out, hh.out]; rfl, below_drewN (Below.refl _ _) _⟩
end Go.Proofs.Ytiedapiepklhlaa
