/-
  The bank's Everywhere, by contract.
-/
import Derived.Test.YtciddoeeiamndaaGreatFl
import Derived.Test.YtciddoeeiamndaaGreatEvB
namespace Go.Proofs.YtciddoeeiamndaaGreat
open Go.RowKit Go.Maps
attribute [local go_sem] Oper.semAt_some

/-- A sector written on disk by disk. -/
def evG (B : Bn) (k : Int) (zs : List Int) (R : Rk) (i : Nat) : Bool × Int × Rk := goN (fun R d => R.wr d k zs) (fun R d => R.wrE d k zs) (fun i => B.disk (i : Int)) R i
theorem evG_n (B : Bn) (k : Int) (zs : List Int) (R : Rk) (i : Nat) : (evG B k zs R i).2.2.n = R.n := goN_keep (fun x : Rk => x.n = R.n) rfl (fun x d h => (x.wr_n d k zs).trans h) i
theorem evG_go {B : Bn} {k : Int} {zs : List Int} {R : Rk} {i : Nat} (h : (evG B k zs R i).1 = false) (h2 : (evG B k zs R i).2.2.wrE (B.disk (i : Int)) k zs ≠ 12) :
    evG B k zs R (i + 1) = (false, if (evG B k zs R i).2.2.wrE (B.disk (i : Int)) k zs = 11 then 11 else (evG B k zs R i).2.1, (evG B k zs R i).2.2.wr (B.disk (i : Int)) k zs) := goN_go h h2
theorem evG_stop {B : Bn} {k : Int} {zs : List Int} {R : Rk} {i : Nat} (h : (evG B k zs R i).1 = false) (h2 : (evG B k zs R i).2.2.wrE (B.disk (i : Int)) k zs = 12) :
    evG B k zs R (i + 1) = (true, 12, (evG B k zs R i).2.2.wr (B.disk (i : Int)) k zs) := goN_stop h h2

theorem Turn.undrew {N : Nat → Prop} {w w' : World} (h : Turn N w.drew w') : Turn N w w' := ⟨h.os, h.tape, h.output, h.size, h.block⟩
theorem bys_turn2 {N : Nat → Prop} {w w' : World} {a : Option Addr} {n : Nat} {zs : List Int} (h : Bys w a n zs) (ht : Turn N w w') (hm : n = 0 ∨ ∀ b off, a = some ⟨b, off, none⟩ → ¬ N b) : Bys w' a n zs := by
  rcases hm with h0 | hm
  · exact ⟨h.len, h.small, .inl h0⟩
  · exact bys_turn h ht hm

/-- Between two rounds of Everywhere. -/
structure EvI (M : Nat → Prop) (L : Lay) (R : Rk) (w : World) (b p : Nat) (B : Bn) (k : Int) (a : Option Addr) (m c : Nat) (zs : List Int) (i : Nat) (X : World) : Prop where
  on : (evG B k zs R i).1 = false
  rk : RackAt X (also M (fun j => j = p + 3 ∨ j = p + 4)) L (evG B k zs R i).2.2
  bk : BnAt X b L.p B
  c0 : X.cell? ⟨p, 0, none⟩ = some (.pointer (some ⟨b, 0, none⟩))
  c1 : X.cell? ⟨p + 1, 0, none⟩ = some (.int .i64 k)
  c2 : X.cell? ⟨p + 2, 0, none⟩ = some (.slice a m c)
  c3 : X.cell? ⟨p + 3, 0, none⟩ = some (.int .i64 0)
  c4 : X.cell? ⟨p + 4, 0, none⟩ = some (.int .i64 (evG B k zs R i).2.1)
  f3 : X.frozen? ⟨p + 3, 0, none⟩ = false
  f4 : X.frozen? ⟨p + 4, 0, none⟩ = false
  bys : Bys X a m zs
  tn : Turn (L.M R.n) w X
theorem EvI.aside {M : Nat → Prop} {L : Lay} {R : Rk} {w : World} {b p : Nat} {B : Bn} {k : Int} {a : Option Addr} {m c : Nat} {zs : List Int} {i : Nat} {X X' : World} {l : Nat} (h : EvI M L R w b p B k a m c zs i X) (ha : Aside l X X') (hl : w.heap.size ≤ l) (hM : ∀ j, L.M R.n j → j < p) (hp : p ≤ l) : EvI M L R w b p B k a m c zs i X' :=
  ⟨h.on, h.rk.aside ha (fun x => by rw [evG_n] at x; have := hM l x; omega), h.bk.aside ha, ha.cell h.c0, ha.cell h.c1, ha.cell h.c2, ha.cell h.c3, ha.cell h.c4, (ha.frozen h.c3).trans h.f3, (ha.frozen h.c4).trans h.f4, h.bys.aside ha, h.tn.aside ha hl⟩

end Go.Proofs.YtciddoeeiamndaaGreat
