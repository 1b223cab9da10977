/-
  One contract for each call of both racks, whatever the arguments.
-/
import Derived.Test.YtcgemckookefmaaCpInts
namespace Go.Proofs.Ytcgemckookefmaa
open Go.RowKit Go.Maps

/-- A slice that holds zs, and an error. -/
def RetE (w0 : World) (zs : List Int) (x : Int) (e : Ending) (w' : World) : Prop := ∃ a c, e = .returned (.tuple #[.slice a zs.length c, .int .i64 x]) ∧ SliceOf w0 zs zs.length a c w'
theorem RetE.nil (w : World) (x : Int) {e : Ending} {w' : World} (h : e = .returned (.tuple #[.slice none 0 0, .int .i64 x]) ∧ w = w') : RetE w [] x e w' := by
  obtain ⟨rfl, rfl⟩ := h
  exact ⟨none, 0, rfl, Bys.none _, (fun _ => ⟨rfl, rfl⟩), Below.refl _ _⟩

theorem hasB_nat {n S : Nat} {i s : Int} (h : hasB n S i s = true) : ∃ a b : Nat, i = a ∧ s = b ∧ a < n ∧ b < S := by
  obtain ⟨⟨h0, h1⟩, h2, h3⟩ := hasB_iff.1 h
  exact ⟨i.toNat, s.toNat, by omega, by omega, by omega, by omega⟩
theorem disk_nat {n : Nat} {i : Int} (h : 0 ≤ i ∧ i < n) : ∃ a : Nat, i = a ∧ a < n := ⟨i.toNat, by omega, by omega⟩

def Rk.wrE (R : Rk) (i s : Int) (zs : List Int) : Int := if R.off then 12 else if hasB R.n R.S i s && decide (zs.length = 64) then R.callE i.toNat else 11
def Rk.wr (R : Rk) (i s : Int) (zs : List Int) : Rk := if !R.off && (hasB R.n R.S i s && decide (zs.length = 64)) then (if R.callE i.toNat = 0 then R.call.setD i.toNat ((R.call.d i.toNat).put s.toNat zs) else R.call) else R
def Rk.flE (R : Rk) (i : Int) : Int := if R.off then 12 else if 0 ≤ i ∧ i < R.n then R.callE i.toNat else 11
def Rk.fl (R : Rk) (i : Int) : Rk := if R.off = false ∧ (0 ≤ i ∧ i < R.n) then (if R.callE i.toNat = 0 then R.call.setD i.toNat ((R.call.d i.toNat).flush R.S) else R.call) else R
def Rk.rdE (R : Rk) (i s : Int) : Int := if R.off then 12 else if hasB R.n R.S i s then (if (R.d i.toNat).bad then 13 else 0) else 11
def Rk.rdV (R : Rk) (i s : Int) : List Int := if R.rdE i s = 0 then (R.d i.toNat).read s.toNat else []
def Rk.laE (R : Rk) (i s : Int) : Int := if hasB R.n R.S i s then 0 else 11
def Rk.laV (R : Rk) (i s : Int) : List Int := if hasB R.n R.S i s then sec (R.d i.toNat).last s.toNat else []
def Rk.dkE (R : Rk) (i : Int) : Int := if 0 ≤ i ∧ i < R.n then 0 else 11
def Rk.doom (R : Rk) (i n : Int) : Rk := if 0 ≤ i ∧ i < R.n then R.setD i.toNat { R.d i.toNat with cnt := n } else R
def Rk.ld (R : Rk) (i : Int) (zs : List Int) : Rk := if 0 ≤ i ∧ i < R.n then R.setD i.toNat ((R.d i.toNat).load R.S zs) else R

section
variable {M : Nat → Prop} {L : Lay} {R : Rk} {w : World}
theorem post_same {v : Value} (h : RackAt w M L R) {e : Ending} {w' : World} (he : e = .returned v ∧ w = w') : CallPost M L R R w v e w' := by
  obtain ⟨rfl, rfl⟩ := he
  exact ⟨rfl, h, Turn.refl _ _⟩
theorem write_all (i s : Int) (a : Option Addr) (n c : Nat) (zs : List Int) (h : RackAt w M L R) (hz : Bys w a n zs) (hzM : ∀ b off, a = some ⟨b, off, none⟩ → ¬ M b) :
    Calls Try.prog 21 #[.pointer (some ⟨L.p, 0, none⟩), .int .i64 i, .int .i64 s, .slice a n c] w (CallPost M L R (R.wr i s zs) w (.int .i64 (R.wrE i s zs))) := by
  obtain rfl := hz.len
  cases ho : R.off with
  | true =>
    refine (write_dead M L R w i s a _ c h ho).mono fun e w' he => ?_
    unfold Rk.wr Rk.wrE
    simp only [ho]
    exact post_same h he
  | false =>
    by_cases hb : hasB R.n R.S i s = true ∧ zs.length = 64
    · obtain ⟨hb, hl⟩ := hb
      have hgo : (hasB R.n R.S i s && decide (zs.length = 64)) = true := by simp [hb, hl]
      obtain ⟨x, y, rfl, rfl, hx, hy⟩ := hasB_nat hb
      rw [hl]
      unfold Rk.wr Rk.wrE
      simp only [ho, hgo, Bool.not_false, Bool.and_self, if_true, Int.toNat_natCast, Bool.false_eq_true, if_false]
      by_cases hE : R.callE x = 0
      · rw [if_pos hE, hE]
        rw [hl] at hz
        rcases hz.place with h0 | ⟨b, off, rfl, hlt, hc⟩
        · omega
        exact write_ok M L R x y b off c zs w h ho hx hy hz (hzM _ _ rfl) hE
      · rw [if_neg hE]
        exact write_err M L R w x y a c h ho hx hy hE
    · have hgo : (hasB R.n R.S i s && decide (zs.length = 64)) = false := by
        rw [Bool.and_eq_false_iff]
        by_cases h1 : hasB R.n R.S i s = true
        · right; exact decide_eq_false fun x => hb ⟨h1, x⟩
        · left; simpa using h1
      refine (write_bad M L R w i s a _ c h ho (by
        by_cases h1 : hasB R.n R.S i s = true
        · right; exact fun x => hb ⟨h1, x⟩
        · left; simpa using h1)).mono fun e w' he => ?_
      unfold Rk.wr Rk.wrE
      simp only [ho, hgo, Bool.and_false, Bool.false_eq_true, if_false]
      exact post_same h he
theorem flush_all (i : Int) (h : RackAt w M L R) :
    Calls Try.prog 22 #[.pointer (some ⟨L.p, 0, none⟩), .int .i64 i] w (CallPost M L R (R.fl i) w (.int .i64 (R.flE i))) := by
  cases ho : R.off with
  | true =>
    refine (flush_dead M L R w i h ho).mono fun e w' he => ?_
    unfold Rk.fl Rk.flE
    simp only [ho, Bool.true_eq_false, false_and, if_false, if_true]
    exact post_same h he
  | false =>
    by_cases hb : 0 ≤ i ∧ i < R.n
    · obtain ⟨x, rfl, hx⟩ := disk_nat hb
      have e1 : R.flE x = R.callE x := by unfold Rk.flE; rw [if_neg (by simp [ho]), if_pos hb, Int.toNat_natCast]
      rw [e1]
      unfold Rk.fl
      rw [if_pos ⟨ho, hb⟩, Int.toNat_natCast]
      by_cases hE : R.callE x = 0
      · rw [if_pos hE, hE]
        exact flush_ok M L R w x h ho hx hE
      · rw [if_neg hE]
        exact flush_err M L R w x h ho hx hE
    · refine (flush_bad M L R w i h ho hb).mono fun e w' he => ?_
      unfold Rk.fl Rk.flE
      rw [if_neg (fun x => hb x.2), if_neg (by simp [ho]), if_neg hb]
      exact post_same h he
theorem read_all (i s : Int) (h : RackAt w M L R) :
    Calls Try.prog 24 #[.pointer (some ⟨L.p, 0, none⟩), .int .i64 i, .int .i64 s] w (RetE w (R.rdV i s) (R.rdE i s)) := by
  unfold Rk.rdV
  cases ho : R.off with
  | true =>
    refine (read_dead M L R w i s h ho).mono fun e w' he => ?_
    have : R.rdE i s = 12 := by simp [Rk.rdE, ho]
    rw [this]
    exact RetE.nil w 12 he
  | false =>
    by_cases hb : hasB R.n R.S i s = true
    · obtain ⟨x, y, rfl, rfl, hx, hy⟩ := hasB_nat hb
      cases hbad : (R.d x).bad with
      | true =>
        refine (read_failed M L R w x y h ho hx hy hbad).mono fun e w' he => ?_
        have : R.rdE x y = 13 := by simp [Rk.rdE, ho, hb, hbad]
        rw [this]
        exact RetE.nil w 13 he
      | false =>
        have : R.rdE x y = 0 := by simp [Rk.rdE, ho, hb, hbad]
        rw [this, if_pos rfl, Int.toNat_natCast, Int.toNat_natCast]
        exact read_ok M L R w x y h ho hx hy hbad
    · have hb' : hasB R.n R.S i s = false := by simpa using hb
      refine (read_bad M L R w i s h ho hb').mono fun e w' he => ?_
      have : R.rdE i s = 11 := by simp [Rk.rdE, ho, hb']
      rw [this]
      exact RetE.nil w 11 he
theorem lasting_all (i s : Int) (h : RackAt w M L R) :
    Calls Try.prog 18 #[.pointer (some ⟨L.p, 0, none⟩), .int .i64 i, .int .i64 s] w (RetE w (R.laV i s) (R.laE i s)) := by
  unfold Rk.laV Rk.laE
  by_cases hb : hasB R.n R.S i s = true
  · obtain ⟨x, y, rfl, rfl, hx, hy⟩ := hasB_nat hb
    rw [if_pos hb, if_pos hb, Int.toNat_natCast, Int.toNat_natCast]
    exact lasting_ok M L R w x y h hx hy
  · rw [if_neg hb, if_neg hb]
    exact (lasting_bad M L R w i s h (by simpa using hb)).mono fun e w' he => RetE.nil w 11 he
theorem doom_all (i n : Int) (h : RackAt w M L R) (hn : n ≤ 9223372036854775807) :
    Calls Try.prog 25 #[.pointer (some ⟨L.p, 0, none⟩), .int .i64 i, .int .i64 n] w (CallPost M L R (R.doom i n) w (.int .i64 (R.dkE i))) := by
  unfold Rk.doom Rk.dkE
  by_cases hb : 0 ≤ i ∧ i < R.n
  · obtain ⟨x, rfl, hx⟩ := disk_nat hb
    rw [if_pos hb, if_pos hb, Int.toNat_natCast]
    exact doom_ok M L R w x n h hx hn
  · rw [if_neg hb, if_neg hb]
    exact (doom_bad M L R w i n h hb).mono fun e w' he => post_same h he
theorem load_all (i : Int) (a : Option Addr) (n c : Nat) (zs : List Int) (h : RackAt w M L R) (hx : Bys w a n zs) (hn : n ≤ 1000000000000) :
    Calls Try.prog 27 #[.pointer (some ⟨L.p, 0, none⟩), .int .i64 i, .slice a n c] w (CallPost M L R (R.ld i zs) w (.int .i64 (R.dkE i))) := by
  unfold Rk.ld Rk.dkE
  by_cases hb : 0 ≤ i ∧ i < R.n
  · obtain ⟨x, rfl, hi⟩ := disk_nat hb
    rw [if_pos hb, if_pos hb, Int.toNat_natCast]
    exact load_ok M L R w x n c a zs h hi hx hn
  · rw [if_neg hb, if_neg hb]
    exact (load_bad M L R w i a n c h hb).mono fun e w' he => post_same h he
end

def Rf.callB (F : Rf) (i : Nat) : Int := if F.pw = 0 then 12 else if F.call.bad i then 13 else 0
def Rf.wrE (F : Rf) (i s : Int) (zs : List Int) : Int := if F.dead then 12 else if hasB F.n F.S i s && decide (zs.length = 64) then F.callB i.toNat else 11
def Rf.wr (F : Rf) (i s : Int) (zs : List Int) : Rf := if !F.dead && (hasB F.n F.S i s && decide (zs.length = 64)) then (if F.callB i.toNat = 0 then { F.call with C := atI F.call.C (i.toNat * F.S + s.toNat) (some zs) } else F.call) else F
def Rf.flE (F : Rf) (i : Int) : Int := if F.dead then 12 else if 0 ≤ i ∧ i < F.n then F.callB i.toNat else 11
def Rf.fl (F : Rf) (i : Int) : Rf := if F.dead = false ∧ (0 ≤ i ∧ i < F.n) then (if F.callB i.toNat = 0 then F.call.flushed (i.toNat * F.S) ((i.toNat + 1) * F.S) else F.call) else F
def Rf.rdE (F : Rf) (i s : Int) : Int := if F.dead then 12 else if hasB F.n F.S i s then (if F.bad i.toNat then 13 else 0) else 11
def Rf.rdV (F : Rf) (i s : Int) : List Int := if F.rdE i s = 0 then F.rd (i.toNat * F.S + s.toNat) else []
def Rf.laE (F : Rf) (i s : Int) : Int := if hasB F.n F.S i s then 0 else 11
def Rf.laV (F : Rf) (i s : Int) : List Int := if hasB F.n F.S i s then F.L (i.toNat * F.S + s.toNat) else []
def Rf.dkE (F : Rf) (i : Int) : Int := if 0 ≤ i ∧ i < F.n then 0 else 11
def Rf.doom (F : Rf) (i n : Int) : Rf := if 0 ≤ i ∧ i < F.n then { F with cnt := atI F.cnt i.toNat (max n (-1)) } else F
def Rf.ld (F : Rf) (i : Int) (zs : List Int) : Rf := if 0 ≤ i ∧ i < F.n then F.loaded (i.toNat * F.S) (loadL F.S zs) F.S else F

section
variable {M : Nat → Prop} {L : RLay} {F : Rf} {w : World}
theorem rpost_same {v : Value} (h : RefAt w M L F) {e : Ending} {w' : World} (he : e = .returned v ∧ w = w') : RefPost M L F w v e w' := by
  obtain ⟨rfl, rfl⟩ := he
  exact ⟨rfl, h, Turn.refl _ _⟩
theorem callB_dead {i : Nat} (h : F.callE ≠ 0) : F.callB i = F.callE ∧ F.callB i ≠ 0 := by
  unfold Rf.callE at h ⊢
  unfold Rf.callB
  by_cases h0 : F.pw = 0
  · rw [if_pos h0, if_pos h0]; exact ⟨rfl, by omega⟩
  · rw [if_neg h0] at h; exact absurd rfl h
theorem callB_live {i : Nat} (h : F.callE = 0) : F.callB i = if F.call.bad i then 13 else 0 := by
  unfold Rf.callE at h
  unfold Rf.callB
  by_cases h0 : F.pw = 0
  · rw [if_pos h0] at h; omega
  · rw [if_neg h0]
theorem rwrite_all (i s : Int) (a : Option Addr) (n c : Nat) (zs : List Int) (h : RefAt w M L F) (hz : Bys w a n zs) (hzM : n = 0 ∨ ∀ b off, a = some ⟨b, off, none⟩ → ¬ M b) :
    Calls Try.prog 31 #[.pointer (some ⟨L.p, 0, none⟩), .int .i64 i, .int .i64 s, .slice a n c] w (RefPost M L (F.wr i s zs) w (.int .i64 (F.wrE i s zs))) := by
  obtain rfl := hz.len
  cases ho : F.dead with
  | true =>
    refine (rwrite_dead M L F w i s a _ c h ho).mono fun e w' he => ?_
    unfold Rf.wr Rf.wrE
    simp only [ho]
    exact rpost_same h he
  | false =>
    by_cases hb : hasB F.n F.S i s = true ∧ zs.length = 64
    · obtain ⟨hb, hl⟩ := hb
      have hgo : (hasB F.n F.S i s && decide (zs.length = 64)) = true := by simp [hb, hl]
      obtain ⟨x, y, rfl, rfl, hx, hy⟩ := hasB_nat hb
      rw [hl]
      unfold Rf.wr Rf.wrE
      simp only [ho, hgo, Bool.not_false, Bool.and_self, if_true, Int.toNat_natCast, Bool.false_eq_true, if_false]
      by_cases hE : F.callE = 0
      · cases hbad : F.call.bad x with
        | true =>
          have e2 : F.callB x = 13 := by rw [callB_live hE, hbad]; rfl
          rw [e2, if_neg (by omega)]
          exact rwrite_failed M L F w x y a c h ho hx hy hE hbad
        | false =>
          have e2 : F.callB x = 0 := by rw [callB_live hE, hbad]; rfl
          rw [e2, if_pos rfl]
          rw [hl] at hz
          rcases hz.place with h0 | ⟨b, off, rfl, hlt, hc⟩
          · omega
          exact rwrite_ok M L F w x y b off c zs h ho hx hy hE hbad hz ((hzM.resolve_left (by omega)) _ _ rfl)
      · rw [if_neg (callB_dead hE).2, (callB_dead hE).1]
        exact rwrite_err M L F w x y a c h ho hx hy hE
    · have hgo : (hasB F.n F.S i s && decide (zs.length = 64)) = false := by
        rw [Bool.and_eq_false_iff]
        by_cases h1 : hasB F.n F.S i s = true
        · right; exact decide_eq_false fun x => hb ⟨h1, x⟩
        · left; simpa using h1
      refine (rwrite_bad M L F w i s a _ c h ho (by
        by_cases h1 : hasB F.n F.S i s = true
        · right; exact fun x => hb ⟨h1, x⟩
        · left; simpa using h1)).mono fun e w' he => ?_
      unfold Rf.wr Rf.wrE
      simp only [ho, hgo, Bool.and_false, Bool.false_eq_true, if_false]
      exact rpost_same h he
theorem rflush_all (i : Int) (h : RefAt w M L F) :
    Calls Try.prog 32 #[.pointer (some ⟨L.p, 0, none⟩), .int .i64 i] w (RefPost M L (F.fl i) w (.int .i64 (F.flE i))) := by
  cases ho : F.dead with
  | true =>
    refine (rflush_dead M L F w i h ho).mono fun e w' he => ?_
    unfold Rf.fl Rf.flE
    simp only [ho, Bool.true_eq_false, false_and, if_false, if_true]
    exact rpost_same h he
  | false =>
    by_cases hb : 0 ≤ i ∧ i < F.n
    · obtain ⟨x, rfl, hx⟩ := disk_nat hb
      have e1 : F.flE x = F.callB x := by unfold Rf.flE; rw [if_neg (by simp [ho]), if_pos hb, Int.toNat_natCast]
      rw [e1]
      unfold Rf.fl
      rw [if_pos ⟨ho, hb⟩, Int.toNat_natCast]
      by_cases hE : F.callE = 0
      · cases hbad : F.call.bad x with
        | true =>
          have e2 : F.callB x = 13 := by rw [callB_live hE, hbad]; rfl
          rw [e2, if_neg (by omega)]
          exact rflush_failed M L F w x h ho hx hE hbad
        | false =>
          have e2 : F.callB x = 0 := by rw [callB_live hE, hbad]; rfl
          rw [e2, if_pos rfl]
          exact rflush_ok M L F w x h ho hx hE hbad
      · rw [if_neg (callB_dead hE).2, (callB_dead hE).1]
        exact rflush_err M L F w x h ho hx hE
    · refine (rflush_bad M L F w i h ho hb).mono fun e w' he => ?_
      unfold Rf.fl Rf.flE
      rw [if_neg (fun x => hb x.2), if_neg (by simp [ho]), if_neg hb]
      exact rpost_same h he
theorem rread_all (i s : Int) (h : RefAt w M L F) :
    Calls Try.prog 29 #[.pointer (some ⟨L.p, 0, none⟩), .int .i64 i, .int .i64 s] w (RetE w (F.rdV i s) (F.rdE i s)) := by
  unfold Rf.rdV
  cases ho : F.dead with
  | true =>
    refine (rread_dead M L F w i s h ho).mono fun e w' he => ?_
    have : F.rdE i s = 12 := by simp [Rf.rdE, ho]
    rw [this]
    exact RetE.nil w 12 he
  | false =>
    by_cases hb : hasB F.n F.S i s = true
    · obtain ⟨x, y, rfl, rfl, hx, hy⟩ := hasB_nat hb
      cases hbad : F.bad x with
      | true =>
        refine (rread_failed M L F w x y h ho hx hy hbad).mono fun e w' he => ?_
        have : F.rdE x y = 13 := by simp [Rf.rdE, ho, hb, hbad]
        rw [this]
        exact RetE.nil w 13 he
      | false =>
        have : F.rdE x y = 0 := by simp [Rf.rdE, ho, hb, hbad]
        rw [this, if_pos rfl, Int.toNat_natCast, Int.toNat_natCast]
        exact rread_ok M L F w x y h ho hx hy hbad
    · have hb' : hasB F.n F.S i s = false := by simpa using hb
      refine (rread_bad M L F w i s h ho hb').mono fun e w' he => ?_
      have : F.rdE i s = 11 := by simp [Rf.rdE, ho, hb']
      rw [this]
      exact RetE.nil w 11 he
theorem rlasting_all (i s : Int) (h : RefAt w M L F) :
    Calls Try.prog 19 #[.pointer (some ⟨L.p, 0, none⟩), .int .i64 i, .int .i64 s] w (RetE w (F.laV i s) (F.laE i s)) := by
  unfold Rf.laV Rf.laE
  by_cases hb : hasB F.n F.S i s = true
  · obtain ⟨x, y, rfl, rfl, hx, hy⟩ := hasB_nat hb
    rw [if_pos hb, if_pos hb, Int.toNat_natCast, Int.toNat_natCast]
    exact rlast_ok M L F w x y h hx hy
  · rw [if_neg hb, if_neg hb]
    exact (rlast_bad M L F w i s h (by simpa using hb)).mono fun e w' he => RetE.nil w 11 he
theorem rdoom_all (i n : Int) (h : RefAt w M L F) (hn : n ≤ 9223372036854775807) :
    Calls Try.prog 34 #[.pointer (some ⟨L.p, 0, none⟩), .int .i64 i, .int .i64 n] w (RefPost M L (F.doom i n) w (.int .i64 (F.dkE i))) := by
  unfold Rf.doom Rf.dkE
  by_cases hb : 0 ≤ i ∧ i < F.n
  · obtain ⟨x, rfl, hx⟩ := disk_nat hb
    rw [if_pos hb, if_pos hb, Int.toNat_natCast]
    exact rdoom_ok M L F w x n h hx hn
  · rw [if_neg hb, if_neg hb]
    exact (rdoom_bad M L F w i n h hb).mono fun e w' he => rpost_same h he
theorem rload_all (i : Int) (a : Option Addr) (n c : Nat) (zs : List Int) (h : RefAt w M L F) (hx : Bys w a n zs) (hxm : n = 0 ∨ ∀ b off, a = some ⟨b, off, none⟩ → ¬ L.M b) (hn : n ≤ 1000000000000) :
    Calls Try.prog 37 #[.pointer (some ⟨L.p, 0, none⟩), .int .i64 i, .slice a n c] w (RefPost M L (F.ld i zs) w (.int .i64 (F.dkE i))) := by
  unfold Rf.ld Rf.dkE
  by_cases hb : 0 ≤ i ∧ i < F.n
  · obtain ⟨x, rfl, hi⟩ := disk_nat hb
    rw [if_pos hb, if_pos hb, Int.toNat_natCast]
    exact rload_ok M L F w x n c a zs h hi hx hxm hn
  · rw [if_neg hb, if_neg hb]
    exact (rload_bad M L F w i a n c h hb).mono fun e w' he => rpost_same h he
end

end Go.Proofs.Ytcgemckookefmaa
