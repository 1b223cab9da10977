/-
  The program's Read, by a contract that tells that what it answers is the call's own.
-/
import Derived.Test.YtciddoeeiamndaaGreatOpm
import Derived.Test.YtciddoeeiamndaaGreatRowO
namespace Go.Proofs.YtciddoeeiamndaaGreat
open Go.RowKit Go.Maps

/-- Bytes of the call's own. -/
def RetO (w0 : World) (zs : List Int) (e : Ending) (w' : World) : Prop := ∃ v, e = .returned v ∧ Own w' w0.heap.size v zs.length zs ∧ Below w0.heap.size w0 w'
/-- .. and an error. -/
def RetP (w0 : World) (zs : List Int) (x : Int) (e : Ending) (w' : World) : Prop := ∃ v, e = .returned (.tuple #[v, .int .i64 x]) ∧ Own w' w0.heap.size v zs.length zs ∧ Below w0.heap.size w0 w'
theorem own_nil (w : World) (B : Nat) : Own w B (.slice none 0 0) 0 [] := ⟨World.ownsRow_nil _ _ _ _, fun z hz => by cases hz⟩
theorem RetP.nil (w : World) (x : Int) {e : Ending} {w' : World} (h : e = .returned (.tuple #[.slice none 0 0, .int .i64 x]) ∧ w = w') : RetP w [] x e w' := by
  obtain ⟨rfl, rfl⟩ := h
  exact ⟨_, rfl, own_nil _ _, Below.refl _ _⟩
theorem own_len {w : World} {B n : Nat} {v : Value} {zs : List Int} (h : Own w B v n zs) : Own w B v zs.length zs := by
  have := h.len
  subst this
  exact h

theorem readO_any (M : Nat → Prop) (S db o lb mb s : Nat) (d : Dk) (w : World) (h : DrvAt w M S db o lb mb d) (hS : S ≤ 4096) (hs : s < S) :
    Calls Tryz.prog 48 #[.pointer (some ⟨db, o, none⟩), .int .i64 s] w (RetO w (d.read s)) := by
  obtain ⟨n, D, hc⟩ := h.cache
  have c0 := h.c0
  have c1 := h.c1
  cases e : d.cache s with
  | some zs =>
    have er : d.read s = zs := by simp [Dk.read, e]
    obtain ⟨g, c, hg, hy, hrun⟩ := hc.look hS hs e
    rw [er]
    clear hc er e
    go_enter Tryz.func48, Tryz.ntmps48
    go_wp2_with (go_at_call 60; refine (clone_any _ _ _ _ _ _ hy (by omega)).mono ?_; rintro e w' ⟨v, rfl, hown, hb⟩)
    go_ret
    exact ⟨_, rfl, own_len hown, hb⟩
  | none =>
    have er : d.read s = sec d.last s := by simp [Dk.read, e]
    have hrun := hc.miss hS hs e
    have hy := h.blk.sec h.len h.small hs
    rw [er]
    clear hc er e
    go_enter Tryz.func48, Tryz.ntmps48
    go_wp2_with (first
      | (go_at_call 61; refine (lastingOf_any db o lb s S w c0 hs hS).mono ?_; rintro e w' ⟨rfl, rfl⟩)
      | (go_at_call 60; refine (clone_any _ _ _ _ _ _ hy (by omega)).mono ?_; rintro e w' ⟨v, rfl, hown, hb⟩))
    go_ret
    exact ⟨_, rfl, own_len hown, hb⟩

section
variable {M : Nat → Prop} {L : Lay} {R : Rk} {w : World}
theorem readO_ok (i s : Nat) (h : RackAt w M L R) (hoff : R.off = false) (hi : i < R.n) (hs : s < R.S) (hb : (R.d i).bad = false) :
    Calls Tryz.prog 13 #[.pointer (some ⟨L.p, 0, none⟩), .int .i64 i, .int .i64 s] w (RetP w ((R.d i).read s) 0) := by
  have c2 := h.c2
  rw [hoff] at c2
  have c0 := h.c0
  have b2 := (h.drv i hi).c2
  rw [hb] at b2
  have hsec := hasSector_yes L.p L.db R.n R.n R.S i s w h.c0 h.c1 (hasB_yes (by omega) (by omega) (by omega) (by omega))
  have hrd := readO_any M R.S L.db (i * 4) (L.lb i) (L.mb i) s (R.d i) w (h.drv i hi) h.fewS hs
  clear hoff hb
  go_enter Tryz.func13, Tryz.ntmps13
  go_wp2_with (first
    | (go_at_call 47; refine hsec.mono ?_; rintro e w' ⟨rfl, rfl⟩)
    | (go_at_call 48; refine hrd.mono ?_; rintro e w1 ⟨v, rfl, hown, hbl⟩))
  go_ret2
  exact ⟨v, rfl, hown, hbl⟩
theorem readP_all (i s : Int) (h : RackAt w M L R) :
    Calls Tryz.prog 13 #[.pointer (some ⟨L.p, 0, none⟩), .int .i64 i, .int .i64 s] w (RetP w (R.rdV i s) (R.rdE i s)) := by
  unfold Rk.rdV
  cases ho : R.off with
  | true =>
    refine (read_dead M L R w i s h ho).mono fun e w' he => ?_
    have : R.rdE i s = 12 := by simp [Rk.rdE, ho]
    rw [this]
    exact RetP.nil w 12 he
  | false =>
    by_cases hb : hasB R.n R.S i s = true
    · obtain ⟨x, y, rfl, rfl, hx, hy⟩ := hasB_nat hb
      cases hbad : (R.d x).bad with
      | true =>
        refine (read_failed M L R w x y h ho hx hy hbad).mono fun e w' he => ?_
        have : R.rdE x y = 13 := by simp [Rk.rdE, ho, hb, hbad]
        rw [this]
        exact RetP.nil w 13 he
      | false =>
        have : R.rdE x y = 0 := by simp [Rk.rdE, ho, hb, hbad]
        rw [this, if_pos rfl, Int.toNat_natCast, Int.toNat_natCast]
        exact readO_ok x y h ho hx hy hbad
    · have hb' : hasB R.n R.S i s = false := by simpa using hb
      refine (read_bad M L R w i s h ho hb').mono fun e w' he => ?_
      have : R.rdE i s = 11 := by simp [Rk.rdE, ho, hb']
      rw [this]
      exact RetP.nil w 11 he
end

end Go.Proofs.YtciddoeeiamndaaGreat
