/-
  The document's Address, Bytes, Put, Cut, by contract.
-/
import Derived.Test.YtgedgkdnjnbijaaRz
import Derived.Deep.DeepCutAuto
import Derived.Deep.RegionHeld3
namespace Go.Proofs.Ytgedgkdnjnbijaa
open Go.RowKit
set_option linter.unusedVariables false
set_option linter.unusedSimpArgs false

/-- The address that a block is at. -/
def adO (A : Nat → Int) (k : Int) : Int := if inK k then A k.toNat else 0
theorem adO_no (A : Nat → Int) {k : Int} (h : ¬ (0 ≤ k ∧ k < 828)) : adO A k = 0 := by rw [adO, if_neg (by rw [inK_iff]; exact h)]
theorem adO_yes (A : Nat → Int) {k : Nat} (h : k < 828) : adO A k = A k := by rw [adO, if_pos (inK_iff.2 (by omega))]; rfl
theorem raddress_any (b : Nat) (G : Nat → Prop) (A : Nat → Int) (X : Nat → List Int) (k : Int) (w : World) (h : Bmp w b G A X) :
    Calls Try.prog 31 #[.pointer (some ⟨b, 0, none⟩), .int .i64 k] w fun e w' => e = .returned (.int .i64 (adO A k)) ∧ w = w' := by
  by_cases h0 : k < 0
  · rw [adO_no A (by omega)]
    go_enter Try.func31, Try.ntmps31
    go_wp2
    go_ret
    exact ⟨rfl, rfl⟩
  · by_cases h1 : 828 ≤ k
    · rw [adO_no A (by omega)]
      go_enter Try.func31, Try.ntmps31
      go_wp2
      go_ret
      exact ⟨rfl, rfl⟩
    · obtain ⟨j, rfl⟩ := Int.eq_ofNat_of_zero_le (show 0 ≤ k by omega)
      have hj : j < 828 := by omega
      have c1 := h.ad hj
      rw [adO_yes A hj]
      obtain ⟨z, hz⟩ : ∃ z, z = A j := ⟨_, rfl⟩
      rw [← hz] at c1 ⊢
      clear hz h
      go_enter Try.func31, Try.ntmps31
      go_wp2
      go_ret
      exact ⟨rfl, rfl⟩
/-- A new block's bytes, and whether there are any. -/
def byO (X : Nat → List Int) (k : Int) : Bool := inK k && !(X k.toNat).isEmpty
def byX (X : Nat → List Int) (k : Int) : List Int := if inK k then X k.toNat else []
theorem by_no (X : Nat → List Int) {k : Int} (h : ¬ (0 ≤ k ∧ k < 828)) : byO X k = false ∧ byX X k = [] := by
  have e : inK k = false := by cases hh : inK k with | false => rfl | true => exact absurd (inK_iff.1 hh) h
  exact ⟨by rw [byO, e]; rfl, by rw [byX, e]; rfl⟩
theorem by_yes (X : Nat → List Int) {k : Nat} (h : k < 828) : byO X k = !(X k).isEmpty ∧ byX X k = X k := by
  have e : inK (k : Int) = true := inK_iff.2 (by omega)
  exact ⟨by rw [byO, e]; rfl, by rw [byX, e]; rfl⟩
set_option maxHeartbeats 1000000 in
theorem rbytes_any (b : Nat) (G : Nat → Prop) (A : Nat → Int) (X : Nat → List Int) (k : Int) (w : World) (h : Bmp w b G A X) (hs : ∀ i, i < 828 → (X i).length ≤ 1000000) :
    Calls Try.prog 32 #[.pointer (some ⟨b, 0, none⟩), .int .i64 k] w (RetN w (byX X k) (byO X k)) := by
  by_cases h0 : k < 0
  · obtain ⟨e1, e2⟩ := by_no X (k := k) (by omega)
    rw [e1, e2]
    clear e1 e2
    go_enter Try.func32, Try.ntmps32
    go_wp2
    go_ret2
    exact ⟨_, _, _, rfl, Pin.zero _, (fun x hx => by cases hx), Below.refl _ _⟩
  · by_cases h1 : 828 ≤ k
    · obtain ⟨e1, e2⟩ := by_no X (k := k) (by omega)
      rw [e1, e2]
      clear e1 e2
      go_enter Try.func32, Try.ntmps32
      go_wp2
      go_ret2
      exact ⟨_, _, _, rfl, Pin.zero _, (fun x hx => by cases hx), Below.refl _ _⟩
    · obtain ⟨j, rfl⟩ := Int.eq_ofNat_of_zero_le (show 0 ≤ k by omega)
      have hj : j < 828 := by omega
      obtain ⟨e1, e2⟩ := by_yes X hj
      rw [e1, e2]
      obtain ⟨a, n, c, c1, hp, _⟩ := h.sl hj
      have hxs := hs j hj
      obtain ⟨x, hx⟩ : ∃ x, x = X j := ⟨_, rfl⟩
      rw [← hx] at hp hxs ⊢
      have hl := hp.len
      clear hx h e1 e2 hs
      by_cases hn : n = 0
      · subst hn
        obtain rfl : x = [] := List.eq_nil_of_length_eq_zero hl
        clear hp
        go_enter Try.func32, Try.ntmps32
        go_wp2
        go_ret2
        exact ⟨_, _, _, rfl, Pin.zero _, (fun x hx => by cases hx), Below.refl _ _⟩
      · have hne : (!x.isEmpty) = true := by
          cases x with
          | nil => simp at hl; omega
          | cons a l => rfl
        rw [hne]
        have hcp := copy_any a n c x w hp.bys hp.nil (by omega)
        have hn' : ((n : Int) == 0) = false := by simp; omega
        clear hp hne
        go_enter Try.func32, Try.ntmps32
        go_wp2_with (fail)
        refine hcp.mono ?_
        rintro e w2 ⟨v, rfl, hO, hb⟩
        obtain ⟨a2, c2, rfl, hp2, hnew⟩ := hO.pin
        have HP := Lib.hid hp2
        have HN := Lib.hid hnew
        have HB := Lib.hid hb
        clear hO hp2 hnew hb hcp
        go_wp2_with (fail)
        go_ret2
        exact ⟨_, _, _, rfl, HP.out, (fun x hx => (HN.out x hx).1), HB.out⟩
/-- Is it a block's Put? -/
def puO (k : Int) (x : List Int) : Bool := inK k && decide (x.length = 56)
/-- What Put leaves. -/
def PutPost (w : World) (b : Nat) (G : Nat → Prop) (A : Nat → Int) (X : Nat → List Int) (k : Int) (x : List Int) (e : Ending) (w' : World) : Prop :=
  (puO k x = false → e = .returned (.int .i64 28) ∧ w = w') ∧
  (puO k x = true → e = .returned (.int .i64 0) ∧ Turn (· = b) w w' ∧ ∃ G', Bmp w' b G' (upd A k.toNat 0) (upd X k.toNat (bnO x)) ∧ ∀ j, G' j → G j ∨ w.heap.size ≤ j)
end Go.Proofs.Ytgedgkdnjnbijaa
