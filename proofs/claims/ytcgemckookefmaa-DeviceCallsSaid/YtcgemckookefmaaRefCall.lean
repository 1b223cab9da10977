/-
  The reference's small functions, by contract.
-/
import Derived.Test.YtcgemckookefmaaRef
namespace Go.Proofs.Ytcgemckookefmaa
open Go.RowKit Go.Maps

def RefPost (M : Nat → Prop) (L : RLay) (F' : Rf) (w : World) (v : Value) (e : Ending) (w' : World) : Prop := e = .returned v ∧ RefAt w' M L F' ∧ Turn L.M w w'

section
variable (M : Nat → Prop) (L : RLay) (F : Rf) (w : World)
theorem there_yes (i k : Int) (h : RefAt w M L F) (hb : hasB F.n F.S i k = true) :
    Calls Try.prog 42 #[.pointer (some ⟨L.p, 0, none⟩), .int .i64 i, .int .i64 k] w fun e w' => e = .returned (.bool true) ∧ w = w' := by
  obtain ⟨fl, fc, h⟩ := h
  have c0 := h.c0
  have c1 := h.c1
  obtain ⟨⟨h0, h1⟩, h2, h3⟩ := hasB_iff.1 hb
  clear hb
  go_enter Try.func42, Try.ntmps42
  go_wp2
  go_ret
  exact ⟨rfl, rfl⟩
theorem there_no (i k : Int) (h : RefAt w M L F) (hb : hasB F.n F.S i k = false) :
    Calls Try.prog 42 #[.pointer (some ⟨L.p, 0, none⟩), .int .i64 i, .int .i64 k] w fun e w' => e = .returned (.bool false) ∧ w = w' := by
  obtain ⟨fl, fc, h⟩ := h
  have c0 := h.c0
  have c1 := h.c1
  have hb' : ¬ ((0 ≤ i ∧ i < F.n) ∧ 0 ≤ k ∧ k < F.S) := fun x => by rw [hasB_iff.2 x] at hb; cases hb
  clear hb
  by_cases h0 : 0 ≤ i
  · by_cases h1 : i < F.n
    · by_cases h2 : 0 ≤ k
      · have h3 : ¬ k < F.S := fun x => hb' ⟨⟨h0, h1⟩, h2, x⟩
        clear hb'
        go_enter Try.func42, Try.ntmps42
        go_wp2
        go_ret
        exact ⟨rfl, rfl⟩
      · clear hb'
        go_enter Try.func42, Try.ntmps42
        go_wp2
        go_ret
        exact ⟨rfl, rfl⟩
    · clear hb'
      go_enter Try.func42, Try.ntmps42
      go_wp2
      go_ret
      exact ⟨rfl, rfl⟩
  · clear hb'
    go_enter Try.func42, Try.ntmps42
    go_wp2
    go_ret
    exact ⟨rfl, rfl⟩

def badN (F : Rf) (i : Nat) : Bool := F.bad i || F.cnt i == 0
def cntN (F : Rf) (i : Nat) : Int := if F.bad i then F.cnt i else if 0 < F.cnt i then F.cnt i - 1 else F.cnt i
def Rf.told (F : Rf) (k : Nat) : Rf := { F with bad := fun j => if j < k then badN F j else F.bad j, cnt := fun j => if j < k then cntN F j else F.cnt j }
def Rf.call (F : Rf) : Rf := if F.pw = 0 then { F with dead := true } else { F with pw := if 0 < F.pw then F.pw - 1 else F.pw, bad := badN F, cnt := cntN F }
def Rf.callE (F : Rf) : Int := if F.pw = 0 then 12 else 0

theorem refcall_dead (h : RefAt w M L F) (h0 : F.pw = 0) :
    Calls Try.prog 48 #[.pointer (some ⟨L.p, 0, none⟩)] w (RefPost M L F.call w (.int .i64 F.callE)) := by
  obtain ⟨fl, fc, h⟩ := h
  have c6 := h.c6
  have c7 := h.c7
  have f7 := h.fp 7
  rw [h0] at c6
  have h0' : Hid (F.pw = 0) := h0
  clear h0
  go_enter Try.func48, Try.ntmps48
  go_wp2
  go_ret
  refine ⟨?_, ⟨fl, fc, ?_⟩, (turn_set w L.p 7 _).mono fun k e => e ▸ L.M_p⟩
  · simp [Rf.callE, h0'.out]
  · unfold Rf.call
    rw [if_pos h0'.out]
    exact h.setDead true

theorem RefD.congr {w : World} {M : Nat → Prop} {L : RLay} {F F' : Rf} {fl fc : Nat → Value} (h : RefD w M L F fl fc) (hn : F'.n = F.n) (hS : F'.S = F.S) (hp : F'.pw = F.pw) (hd : F'.dead = F.dead) (hL : ∀ k, k < F.n * F.S → F'.L k = F.L k) (hC : ∀ k, k < F.n * F.S → F'.C k = F.C k)
    (hb : ∀ i, i < F.n → F'.bad i = F.bad i) (hc : ∀ i, i < F.n → F'.cnt i = F.cnt i) (hbig : ∀ i, F'.cnt i ≤ 9223372036854775807) : RefD w M L F' fl fc := by
  obtain ⟨n, S, Lf, C, bad, cnt, pw, dead⟩ := F
  obtain ⟨n', S', Lf', C', bad', cnt', pw', dead'⟩ := F'
  simp only at hn hS hp hd hL hC hb hc hbig
  subst hn hS hp hd
  exact ⟨h.row, h.cl, h.cc, h.cb.congr fun i hi => by show Value.bool (bad' i) = Value.bool (bad i); rw [hb i hi], h.cn.congr fun i hi => by show Value.int _ (cnt' i) = Value.int _ (cnt i); rw [hc i hi], fun k hk => by show SlL w M (fl k) (Lf' k); rw [hL k hk]; exact h.last k hk,
    fun k hk => by show SlC w M (fc k) (C' k); rw [hC k hk]; exact h.cach k hk, h.apart, h.sub, h.low, h.few, h.one, h.fewS, h.bigp, hbig⟩

theorem cntN_big (h : ∀ i, F.cnt i ≤ 9223372036854775807) (i : Nat) : cntN F i ≤ 9223372036854775807 := by
  have := h i
  unfold cntN
  split
  · exact this
  · split <;> omega
theorem told_big (h : ∀ i, F.cnt i ≤ 9223372036854775807) (k i : Nat) : (F.told k).cnt i ≤ 9223372036854775807 := by
  show (if i < k then cntN F i else F.cnt i) ≤ _
  split
  · exact cntN_big F h i
  · exact h i
end

set_option maxHeartbeats 1000000 in
theorem refcall_live (M : Nat → Prop) (L : RLay) (F : Rf) (w : World) (h : RefAt w M L F) (h0 : F.pw ≠ 0) :
    Calls Try.prog 48 #[.pointer (some ⟨L.p, 0, none⟩)] w (RefPost M L F.call w (.int .i64 F.callE)) := by
  obtain ⟨fl, fc, h⟩ := h
  obtain ⟨n, hn⟩ : ∃ n, n = F.n := ⟨_, rfl⟩
  have few := h.few
  have big := h.bigp
  have bigc := Lib.hid h.bigc
  have c6 := h.c6
  have f6 := h.fp 6
  rw [← hn] at few
  have hn' : Hid (n = F.n) := hn
  clear hn
  have hne : (F.pw == 0) = false := by simpa using h0
  obtain ⟨F0, hF0⟩ : ∃ F0 : Rf, Hid (F0 = { F with pw := if 0 < F.pw then F.pw - 1 else F.pw }) := ⟨_, Lib.hid rfl⟩
  have hend : Hid (∀ wr, RefD wr M L (F0.told n) fl fc → RefAt wr M L F.call) := by
    intro wr hw
    refine ⟨fl, fc, hw.congr ?_ ?_ ?_ ?_ (fun k _ => ?_) (fun k _ => ?_) (fun i hi => ?_) (fun i hi => ?_) ?_⟩
    all_goals (rw [hF0.out] at *; unfold Rf.call; rw [if_neg h0]; try rfl)
    · have : i < n := by rw [hn'.out]; exact hi
      simp [Rf.told, this, badN]
    · have : i < n := by rw [hn'.out]; exact hi
      simp [Rf.told, this, cntN]
    · exact cntN_big F bigc.out
  have hret : Hid (F.callE = 0) := by unfold Rf.callE Hid; rw [if_neg h0]
  have hn0 : Hid (F0.n = n) := by unfold Hid; rw [hF0.out]; exact hn'.out.symm
  have hb0 : Hid (∀ i, F0.cnt i ≤ 9223372036854775807) := by unfold Hid; rw [hF0.out]; exact bigc.out
  clear h0
  by_cases h1 : 0 < F.pw
  all_goals
    go_enter Try.func48, Try.ntmps48
    go_wp2
    go_loopw [3] (fun i wr => ∃ k : Nat, k ≤ n ∧ i = .int .i64 k ∧ RefD wr M L (F0.told k) fl fc ∧ Turn L.M w wr) (fun i _ => n - (intOf i).toNat)
    case atStart =>
      refine ⟨0, Nat.zero_le _, rfl, ?_, ?_⟩
      · rw [show F0.told 0 = F0 by unfold Rf.told; simp, hF0.out]
        first
          | (rw [if_pos h1]; exact h.setPw _ (by omega))
          | (rw [if_neg (by omega)]; exact h)
      · first
          | exact (turn_set w L.p 6 _).mono fun k e => e ▸ L.M_p
          | exact Turn.refl _ _
    case round =>
      obtain ⟨k, hk, rfl, hr, ht⟩ := hrel
      have a0 : wr.cell? ⟨L.p, 0, none⟩ = some (.int .i64 n) := by
        have := hr.c0
        rwa [show (F0.told k).n = n from hn0.out] at this
      have a4 : wr.cell? ⟨L.p, 4, none⟩ = some (.slice (some ⟨L.bb, 0, none⟩) n L.k3) := by
        have := hr.c4
        rwa [show (F0.told k).n = n from hn0.out] at this
      have a5 : wr.cell? ⟨L.p, 5, none⟩ = some (.slice (some ⟨L.nb, 0, none⟩) n L.k4) := by
        have := hr.c5
        rwa [show (F0.told k).n = n from hn0.out] at this
      clear c6 f6
      by_cases hlt : k < n
      · have ab : wr.cell? ⟨L.bb, k, none⟩ = some (.bool (F0.bad k)) := by
          have := hr.cb.cell (k := k) (by rw [show (F0.told k).n = n from hn0.out]; exact hlt)
          simpa [Rf.told] using this
        have an : wr.cell? ⟨L.nb, k, none⟩ = some (.int .i64 (F0.cnt k)) := by
          have := hr.cn.cell (k := k) (by rw [show (F0.told k).n = n from hn0.out]; exact hlt)
          simpa [Rf.told] using this
        have fb := hr.cb.free k
        have fn := hr.cn.free k
        have A := hr.apart
        have n1 := A.pb
        have n2 := Ne.symm A.pb
        have n3 := A.pn
        have n4 := Ne.symm A.pn
        have n5 := A.bn
        have n6 := Ne.symm A.bn
        have hkn : k < (F0.told k).n := by rw [show (F0.told k).n = n from hn0.out]; exact hlt
        have hbc := hb0.out k
        have step : Hid (∀ b z, badN F0 k = b → cntN F0 k = z → ∀ w2 F2, RefD w2 M L F2 fl fc → F2.n = F0.n → F2.S = F0.S → F2.pw = F0.pw → F2.dead = F0.dead → F2.L = F0.L → F2.C = F0.C → F2.bad = atI (F0.told k).bad k b → F2.cnt = atI (F0.told k).cnt k z → RefD w2 M L (F0.told (k + 1)) fl fc) := by
          intro b z hb hz w2 F2 h2 e1 e2 e3 e4 e5 e6 e7 e8
          refine h2.congr e1.symm e2.symm e3.symm e4.symm (fun j _ => by rw [e5]; rfl) (fun j _ => by rw [e6]; rfl) (fun i _ => ?_) (fun i _ => ?_) (told_big F0 hb0.out (k + 1))
          · rw [e7]
            show (if i < k + 1 then badN F0 i else F0.bad i) = atI (F0.told k).bad k b i
            unfold atI
            by_cases e : i = k
            · subst e; rw [if_pos (by omega), if_pos rfl, hb]
            · rw [if_neg e]
              show _ = if i < k then badN F0 i else F0.bad i
              by_cases h3 : i < k
              · rw [if_pos (by omega), if_pos h3]
              · rw [if_neg (by omega), if_neg h3]
          · rw [e8]
            show (if i < k + 1 then cntN F0 i else F0.cnt i) = atI (F0.told k).cnt k z i
            unfold atI
            by_cases e : i = k
            · subst e; rw [if_pos (by omega), if_pos rfl, hz]
            · rw [if_neg e]
              show _ = if i < k then cntN F0 i else F0.cnt i
              by_cases h3 : i < k
              · rw [if_pos (by omega), if_pos h3]
              · rw [if_neg (by omega), if_neg h3]
        have tb : (F0.told k).bad k = F0.bad k := by simp [Rf.told]
        have tc : (F0.told k).cnt k = F0.cnt k := by simp [Rf.told]
        have same : ∀ {α : Type} (f : Nat → α), f = atI f k (f k) := fun f => by funext j; unfold atI; by_cases e : j = k <;> simp [e]
        have eb := same (F0.told k).bad
        have ec := same (F0.told k).cnt
        rw [tb] at eb
        rw [tc] at ec
        have eb' : Hid ((F0.told k).bad = atI (F0.told k).bad k (F0.bad k)) := eb
        have ec' : Hid ((F0.told k).cnt = atI (F0.told k).cnt k (F0.cnt k)) := ec
        have hr' : Hid (RefD wr M L (F0.told k) fl fc) := hr
        have hbN : Hid (badN F0 k = (F0.bad k || F0.cnt k == 0)) := rfl
        have hcN : Hid (cntN F0 k = if F0.bad k then F0.cnt k else if 0 < F0.cnt k then F0.cnt k - 1 else F0.cnt k) := rfl
        generalize hbv : F0.bad k = bv at ab eb' hbN hcN
        generalize hzv : F0.cnt k = zv at an ec' hbN hcN hbc
        clear same tb tc eb ec hr hbv hzv A
        cases bv with
        | true =>
          go_wp2_with (fail)
          go_roundw
          case rel => exact ⟨k + 1, by omega, by go_num, step.out true zv (by rw [hbN.out]; rfl) (by rw [hcN.out]; rfl) wr _ hr'.out rfl rfl rfl rfl rfl rfl eb'.out ec'.out, ht⟩
          case measure => simp [intOf]; omega
        | false =>
          rcases (by omega : zv = 0 ∨ 0 < zv ∨ zv < 0) with hz | hz | hz
          · subst hz
            go_wp2_with (fail)
            have hr2 := hr'.out.setBad hkn true
            go_roundw
            case rel => exact ⟨k + 1, by omega, by go_num, step.out true 0 (by rw [hbN.out]; rfl) (by rw [hcN.out]; rfl) _ _ hr2 rfl rfl rfl rfl rfl rfl rfl ec'.out, ht.trans ((turn_set wr L.bb k _).mono fun j e => e ▸ L.M_bb)⟩
            case measure => simp [intOf]; omega
          · have hz0 : (zv == 0) = false := by simp; omega
            go_wp2_with (fail)
            have hr2 := hr'.out.setCnt hkn (zv - 1) (by omega)
            go_roundw
            case rel => exact ⟨k + 1, by omega, by go_num, step.out false (zv - 1) (by rw [hbN.out, hz0]; rfl) (by rw [hcN.out, if_pos hz]; rfl) _ _ hr2 rfl rfl rfl rfl rfl rfl eb'.out rfl, ht.trans ((turn_set wr L.nb k _).mono fun j e => e ▸ L.M_nb)⟩
            case measure => simp [intOf]; omega
          · have hz0 : (zv == 0) = false := by simp; omega
            go_wp2_with (fail)
            go_roundw
            case rel => exact ⟨k + 1, by omega, by go_num, step.out false zv (by rw [hbN.out, hz0]; rfl) (by rw [hcN.out, if_neg (by decide), if_neg (by omega)]) wr _ hr'.out rfl rfl rfl rfl rfl rfl eb'.out ec'.out, ht⟩
            case measure => simp [intOf]; omega
      · obtain rfl : k = n := by omega
        have hfin := hend.out wr hr
        clear hend
        go_wp2
        go_ret
        exact ⟨by rw [hret.out]; rfl, hfin, ht⟩

theorem refcall_any (M : Nat → Prop) (L : RLay) (F : Rf) (w : World) (h : RefAt w M L F) :
    Calls Try.prog 48 #[.pointer (some ⟨L.p, 0, none⟩)] w (RefPost M L F.call w (.int .i64 F.callE)) := by
  by_cases h0 : F.pw = 0
  · exact refcall_dead M L F w h h0
  · exact refcall_live M L F w h h0

end Go.Proofs.Ytcgemckookefmaa
