/-
  The reference's small functions, by contract.
-/
import Derived.Test.YtoiidhpohghiaaaRef
namespace Go.Proofs.Ytoiidhpohghiaaa
open Go.RowKit Go.Maps

def RefPost (M : Nat → Prop) (L : RLay) (F' : Rf) (w : World) (v : Value) (e : Ending) (w' : World) : Prop := e = .returned v ∧ RefAt w' M L F' ∧ Turn L.M w w'

section
variable (M : Nat → Prop) (L : RLay) (F : Rf) (w : World)
def badN (F : Rf) (i : Nat) : Bool := F.bad i || F.cnt i == 0
def cntN (F : Rf) (i : Nat) : Int := if F.bad i then F.cnt i else if 0 < F.cnt i then F.cnt i - 1 else F.cnt i
def Rf.told (F : Rf) (k : Nat) : Rf := { F with bad := fun j => if j < k then badN F j else F.bad j, cnt := fun j => if j < k then cntN F j else F.cnt j }
def Rf.call (F : Rf) : Rf := if F.pw = 0 then { F with dead := true } else { F with pw := if 0 < F.pw then F.pw - 1 else F.pw, bad := badN F, cnt := cntN F }
def Rf.callE (F : Rf) : Int := if F.pw = 0 then 12 else 0

theorem RefD.congr {w : World} {M : Nat → Prop} {L : RLay} {F F' : Rf} {fl fc : Nat → Value} (h : RefD w M L F fl fc) (hn : F'.n = F.n) (hS : F'.S = F.S) (hp : F'.pw = F.pw) (hd : F'.dead = F.dead) (hL : ∀ k, k < F.n * F.S → F'.L k = F.L k) (hC : ∀ k, k < F.n * F.S → F'.C k = F.C k)
    (hb : ∀ i, i < F.n → F'.bad i = F.bad i) (hc : ∀ i, i < F.n → F'.cnt i = F.cnt i) (hbig : ∀ i, F'.cnt i ≤ 9223372036854775807) : RefD w M L F' fl fc := by
  obtain ⟨n, S, Lf, C, bad, cnt, pw, dead⟩ := F
  obtain ⟨n', S', Lf', C', bad', cnt', pw', dead'⟩ := F'
  simp only at hn hS hp hd hL hC hb hc hbig
  subst hn hS hp hd
  exact ⟨h.row, h.cl, h.cc, h.cb.congr fun i hi => by show Value.bool (bad' i) = Value.bool (bad i); rw [hb i hi], h.cn.congr fun i hi => by show Value.int _ (cnt' i) = Value.int _ (cnt i); rw [hc i hi], fun k hk => by show SlL w M (fl k) (Lf' k); rw [hL k hk]; exact h.last k hk,
    fun k hk => by show SlC w M (fc k) (C' k); rw [hC k hk]; exact h.cach k hk, h.apart, h.sub, h.low, h.few, h.one, h.fewS, h.bigp, hbig⟩

theorem cntN_big (h : ∀ i, F.cnt i ≤ 9223372036854775807) (i : Nat) : cntN F i ≤ 9223372036854775807 := by
  have := h i
  unfold cntN
  split
  · exact this
  · split <;> omega
theorem told_big (h : ∀ i, F.cnt i ≤ 9223372036854775807) (k i : Nat) : (F.told k).cnt i ≤ 9223372036854775807 := by
  show (if i < k then cntN F i else F.cnt i) ≤ _
  split
  · exact cntN_big F h i
  · exact h i
end

end Go.Proofs.Ytoiidhpohghiaaa
