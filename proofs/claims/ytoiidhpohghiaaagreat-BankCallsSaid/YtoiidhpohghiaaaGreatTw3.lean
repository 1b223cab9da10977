/-
  The law's SameInts; the bank's Member and Off; a member told to both banks.
-/
import Derived.Test.YtoiidhpohghiaaaGreatTw0
namespace Go.Proofs.YtoiidhpohghiaaaGreat
open Go.RowKit Go.Maps
set_option linter.unusedVariables false

theorem sameInts_eq (a b : Option Addr) (n c d : Nat) (ks : List Int) (w : World) (h1 : Ins w a n ks) (h2 : Ins w b n ks) (hn : n ≤ 1000000000000) :
    Calls Tryz.prog 43 #[.slice a n c, .slice b n d] w fun e w' => e = .returned (.bool true) ∧ Below w.heap.size w w' := by
  go_enter Tryz.func43, Tryz.ntmps43
  go_wp2_with (fail)
  go_loopw [5] (fun v wr => SmRel w n v wr) (fun v _ => n - (intOf v).toNat)
  case atStart => exact ⟨0, by omega, rfl, 0, rfl⟩
  case round =>
    obtain ⟨k, hk, rfl, q, hq⟩ := hrel
    have hB : Below w.heap.size w wr := by rw [hq]; exact below_drewN (Below.refl _ _) q
    have HQ := Lib.hid hq
    clear hq
    by_cases hlt : k < n
    · rcases h1.2 with h0 | ⟨g1, o1, rfl, l1, c1⟩
      · omega
      rcases h2.2 with h0 | ⟨g2, o2, rfl, l2, c2⟩
      · omega
      have k0 : (0 : Int) ≤ (k : Int) := by omega
      have k1 : (k : Int) < (n : Int) := by omega
      have x1 := (hB.cell (p := ⟨g1, o1 + k, none⟩) l1).trans (c1 k hlt)
      have x2 := (hB.cell (p := ⟨g2, o2 + k, none⟩) l2).trans (c2 k hlt)
      clear h1 h2 c1 c2
      go_wp2_with (fail)
      go_quiet (fail)
      go_wp2_with (fail)
      go_roundw
      case rel => exact ⟨k + 1, by omega, by go_num, q + nq, by rw [HQ.out, World.drewN_drewN]⟩
      case measure => simp [intOf]; omega
    · obtain rfl : k = n := by omega
      clear h1 h2
      go_wp2_with (fail)
      go_ret
      exact ⟨rfl, hB⟩

section
variable {w0 w w' : World} {M : Nat → Prop} {L : Lay} {K : RLay} {b y n : Nat} {R : Rk} {F : Rf} {B : Bn} {i m e sl st : Int} {a : Option Addr} {l c p : Nat} {zs : List Int}
theorem member_any (h : BnAt w b p B) : Calls Tryz.prog 45 #[.pointer (some ⟨b, 0, none⟩)] w fun e w' => e = .returned (mb B.e B.sl B.st) ∧ Below w.heap.size w w' := by
  have c4 := h.c4
  have c5 := h.c5
  have c6 := h.c6
  have hl := h.lt
  have hb : ∀ x : Obj, Below w.heap.size w (w.alloc x) := fun x => (Below.refl _ _).alloc (Nat.le_refl _) _
  go_enter Tryz.func45, Tryz.ntmps45
  go_wp2_with (fail)
  exact bodyPost_ret (v := mb B.e B.sl B.st) (by simp [results, Tryz.results45, go_sem]) rfl ⟨rfl, hb _⟩
theorem boff_any (hr : RackAt w M L R) (h : BnAt w b L.p B) : Calls Tryz.prog 46 #[.pointer (some ⟨b, 0, none⟩)] w fun e w' => e = .returned (.bool R.off) ∧ w = w' := by
  have c0 := h.c0
  have ho := off_rack M L R w hr
  clear hr h
  go_enter Tryz.func46, Tryz.ntmps46
  go_wp2_with (fail)
  refine ho.mono ?_
  rintro e w1 ⟨rfl, rfl⟩
  go_wp2_with (fail)
  go_ret
  exact ⟨rfl, rfl⟩
theorem Two.join1 {B' : Bn} (h : Two w0 M L K b y R F B w) (hs : St w0 M L b R B' w') (ht : Turn (· = b) w w') : Mid w0 M L K b y R F B' B w' :=
  ⟨hs, h.rf.keep ht (fun k x => x ▸ h.st.mb) (fun k hk x => h.kb (x ▸ hk)), h.rb.turn ht (fun x => h.by' x.symm), h.my, h.ny, h.kb, h.ky, h.ne, h.by'⟩
theorem Mid.join2 {C : Bn} (h : Mid w0 M L K b y R F B C w) (hb : RbAt w' y K.p B) (ht : Turn (· = y) w w') (hr : Rel R F) : Two w0 M L K b y R F B w' :=
  ⟨⟨h.st.rk.keep ht (fun k x => x ▸ h.my) (fun k hk x => h.ny (x ▸ hk)), h.st.bk.turn ht (fun x => h.by' x), h.st.mb, h.st.nb, h.st.lo, h.st.bel.trans (ht.below h.st.bel.size (fun k x => x ▸ h.st.lo y h.my))⟩,
    h.rf.keep ht (fun k x => x ▸ h.my) (fun k hk x => h.ky (x ▸ hk)), hb, h.my, h.ny, h.kb, h.ky, h.ne, h.by', hr⟩
end

end Go.Proofs.YtoiidhpohghiaaaGreat
