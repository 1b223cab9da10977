/-
  One contract for each call of the program's rack, whatever the arguments.
-/
import Derived.Test.YtciddoeeiamndaaNew
import Derived.Test.YtciddoeeiamndaaRest
namespace Go.Proofs.Ytciddoeeiamndaa
open Go.RowKit Go.Maps

/-- A slice that holds zs, and an error. -/
def RetE (w0 : World) (zs : List Int) (x : Int) (e : Ending) (w' : World) : Prop := ∃ a c, e = .returned (.tuple #[.slice a zs.length c, .int .i64 x]) ∧ SliceOf w0 zs zs.length a c w'
theorem RetE.nil (w : World) (x : Int) {e : Ending} {w' : World} (h : e = .returned (.tuple #[.slice none 0 0, .int .i64 x]) ∧ w = w') : RetE w [] x e w' := by
  obtain ⟨rfl, rfl⟩ := h
  exact ⟨none, 0, rfl, Bys.none _, (fun _ => ⟨rfl, rfl⟩), Below.refl _ _⟩

theorem hasB_nat {n S : Nat} {i s : Int} (h : hasB n S i s = true) : ∃ a b : Nat, i = a ∧ s = b ∧ a < n ∧ b < S := by
  obtain ⟨⟨h0, h1⟩, h2, h3⟩ := hasB_iff.1 h
  exact ⟨i.toNat, s.toNat, by omega, by omega, by omega, by omega⟩
theorem disk_nat {n : Nat} {i : Int} (h : 0 ≤ i ∧ i < n) : ∃ a : Nat, i = a ∧ a < n := ⟨i.toNat, by omega, by omega⟩

def Rk.wrE (R : Rk) (i s : Int) (zs : List Int) : Int := if R.off then 12 else if hasB R.n R.S i s && decide (zs.length = 64) then R.callE i.toNat else 11
def Rk.wr (R : Rk) (i s : Int) (zs : List Int) : Rk := if !R.off && (hasB R.n R.S i s && decide (zs.length = 64)) then (if R.callE i.toNat = 0 then R.call.setD i.toNat ((R.call.d i.toNat).put s.toNat zs) else R.call) else R
def Rk.flE (R : Rk) (i : Int) : Int := if R.off then 12 else if 0 ≤ i ∧ i < R.n then R.callE i.toNat else 11
def Rk.fl (R : Rk) (i : Int) : Rk := if R.off = false ∧ (0 ≤ i ∧ i < R.n) then (if R.callE i.toNat = 0 then R.call.setD i.toNat ((R.call.d i.toNat).flush R.S) else R.call) else R
def Rk.rdE (R : Rk) (i s : Int) : Int := if R.off then 12 else if hasB R.n R.S i s then (if (R.d i.toNat).bad then 13 else 0) else 11
def Rk.rdV (R : Rk) (i s : Int) : List Int := if R.rdE i s = 0 then (R.d i.toNat).read s.toNat else []
def Rk.dkE (R : Rk) (i : Int) : Int := if 0 ≤ i ∧ i < R.n then 0 else 11
def Rk.doom (R : Rk) (i n : Int) : Rk := if 0 ≤ i ∧ i < R.n then R.setD i.toNat { R.d i.toNat with cnt := n } else R

section
variable {M : Nat → Prop} {L : Lay} {R : Rk} {w : World}
theorem post_same {v : Value} (h : RackAt w M L R) {e : Ending} {w' : World} (he : e = .returned v ∧ w = w') : CallPost M L R R w v e w' := by
  obtain ⟨rfl, rfl⟩ := he
  exact ⟨rfl, h, Turn.refl _ _⟩
theorem write_all (i s : Int) (a : Option Addr) (n c : Nat) (zs : List Int) (h : RackAt w M L R) (hz : Bys w a n zs) (hzM : n = 0 ∨ ∀ b off, a = some ⟨b, off, none⟩ → ¬ M b) :
    Calls Try.prog 24 #[.pointer (some ⟨L.p, 0, none⟩), .int .i64 i, .int .i64 s, .slice a n c] w (CallPost M L R (R.wr i s zs) w (.int .i64 (R.wrE i s zs))) := by
  obtain rfl := hz.len
  cases ho : R.off with
  | true =>
    refine (write_dead M L R w i s a _ c h ho).mono fun e w' he => ?_
    unfold Rk.wr Rk.wrE
    simp only [ho]
    exact post_same h he
  | false =>
    by_cases hb : hasB R.n R.S i s = true ∧ zs.length = 64
    · obtain ⟨hb, hl⟩ := hb
      have hgo : (hasB R.n R.S i s && decide (zs.length = 64)) = true := by simp [hb, hl]
      obtain ⟨x, y, rfl, rfl, hx, hy⟩ := hasB_nat hb
      rw [hl]
      unfold Rk.wr Rk.wrE
      simp only [ho, hgo, Bool.not_false, Bool.and_self, if_true, Int.toNat_natCast, Bool.false_eq_true, if_false]
      by_cases hE : R.callE x = 0
      · rw [if_pos hE, hE]
        rw [hl] at hz
        rcases hz.place with h0 | ⟨b, off, rfl, hlt, hc⟩
        · omega
        exact write_ok M L R x y b off c zs w h ho hx hy hz ((hzM.resolve_left (by omega)) _ _ rfl) hE
      · rw [if_neg hE]
        exact write_err M L R w x y a c h ho hx hy hE
    · have hgo : (hasB R.n R.S i s && decide (zs.length = 64)) = false := by
        rw [Bool.and_eq_false_iff]
        by_cases h1 : hasB R.n R.S i s = true
        · right; exact decide_eq_false fun x => hb ⟨h1, x⟩
        · left; simpa using h1
      refine (write_bad M L R w i s a _ c h ho (by
        by_cases h1 : hasB R.n R.S i s = true
        · right; exact fun x => hb ⟨h1, x⟩
        · left; simpa using h1)).mono fun e w' he => ?_
      unfold Rk.wr Rk.wrE
      simp only [ho, hgo, Bool.and_false, Bool.false_eq_true, if_false]
      exact post_same h he
theorem flush_all (i : Int) (h : RackAt w M L R) :
    Calls Try.prog 37 #[.pointer (some ⟨L.p, 0, none⟩), .int .i64 i] w (CallPost M L R (R.fl i) w (.int .i64 (R.flE i))) := by
  cases ho : R.off with
  | true =>
    refine (flush_dead M L R w i h ho).mono fun e w' he => ?_
    unfold Rk.fl Rk.flE
    simp only [ho, Bool.true_eq_false, false_and, if_false, if_true]
    exact post_same h he
  | false =>
    by_cases hb : 0 ≤ i ∧ i < R.n
    · obtain ⟨x, rfl, hx⟩ := disk_nat hb
      have e1 : R.flE x = R.callE x := by unfold Rk.flE; rw [if_neg (by simp [ho]), if_pos hb, Int.toNat_natCast]
      rw [e1]
      unfold Rk.fl
      rw [if_pos ⟨ho, hb⟩, Int.toNat_natCast]
      by_cases hE : R.callE x = 0
      · rw [if_pos hE, hE]
        exact flush_ok M L R w x h ho hx hE
      · rw [if_neg hE]
        exact flush_err M L R w x h ho hx hE
    · refine (flush_bad M L R w i h ho hb).mono fun e w' he => ?_
      unfold Rk.fl Rk.flE
      rw [if_neg (fun x => hb x.2), if_neg (by simp [ho]), if_neg hb]
      exact post_same h he
theorem read_all (i s : Int) (h : RackAt w M L R) :
    Calls Try.prog 22 #[.pointer (some ⟨L.p, 0, none⟩), .int .i64 i, .int .i64 s] w (RetE w (R.rdV i s) (R.rdE i s)) := by
  unfold Rk.rdV
  cases ho : R.off with
  | true =>
    refine (read_dead M L R w i s h ho).mono fun e w' he => ?_
    have : R.rdE i s = 12 := by simp [Rk.rdE, ho]
    rw [this]
    exact RetE.nil w 12 he
  | false =>
    by_cases hb : hasB R.n R.S i s = true
    · obtain ⟨x, y, rfl, rfl, hx, hy⟩ := hasB_nat hb
      cases hbad : (R.d x).bad with
      | true =>
        refine (read_failed M L R w x y h ho hx hy hbad).mono fun e w' he => ?_
        have : R.rdE x y = 13 := by simp [Rk.rdE, ho, hb, hbad]
        rw [this]
        exact RetE.nil w 13 he
      | false =>
        have : R.rdE x y = 0 := by simp [Rk.rdE, ho, hb, hbad]
        rw [this, if_pos rfl, Int.toNat_natCast, Int.toNat_natCast]
        exact read_ok M L R w x y h ho hx hy hbad
    · have hb' : hasB R.n R.S i s = false := by simpa using hb
      refine (read_bad M L R w i s h ho hb').mono fun e w' he => ?_
      have : R.rdE i s = 11 := by simp [Rk.rdE, ho, hb']
      rw [this]
      exact RetE.nil w 11 he
theorem doom_all (i n : Int) (h : RackAt w M L R) (hn : n ≤ 9223372036854775807) :
    Calls Try.prog 12 #[.pointer (some ⟨L.p, 0, none⟩), .int .i64 i, .int .i64 n] w (CallPost M L R (R.doom i n) w (.int .i64 (R.dkE i))) := by
  unfold Rk.doom Rk.dkE
  by_cases hb : 0 ≤ i ∧ i < R.n
  · obtain ⟨x, rfl, hx⟩ := disk_nat hb
    rw [if_pos hb, if_pos hb, Int.toNat_natCast]
    exact doom_ok M L R w x n h hx hn
  · rw [if_neg hb, if_neg hb]
    exact (doom_bad M L R w i n h hb).mono fun e w' he => post_same h he
end

end Go.Proofs.Ytciddoeeiamndaa
