/-
  The law's 'told', whatever the call.
-/
import Derived.Test.YtcgemckookefmaaTold5
namespace Go.Proofs.Ytcgemckookefmaa
open Go.RowKit Go.Maps

theorem rdV_le {w : World} {M : Nat → Prop} {L : Lay} {R : Rk} (h : RackAt w M L R) (i s : Int) : (R.rdV i s).length ≤ 64 := by
  unfold Rk.rdV
  split
  · next he =>
    unfold Rk.rdE at he
    by_cases ho : R.off = true
    · rw [if_pos ho] at he; omega
    · rw [if_neg ho] at he
      by_cases hb : hasB R.n R.S i s = true
      · obtain ⟨x, y, rfl, rfl, hx, hy⟩ := hasB_nat hb
        rw [Int.toNat_natCast, Int.toNat_natCast]
        exact Nat.le_of_eq (Dk.read_len (h.drv x hx) hy).1
      · rw [if_neg hb] at he; omega
  · simp
theorem laV_le {w : World} {M : Nat → Prop} {L : Lay} {R : Rk} (h : RackAt w M L R) (i s : Int) : (R.laV i s).length ≤ 64 := by
  unfold Rk.laV
  split
  · next hb =>
    obtain ⟨x, y, rfl, rfl, hx, hy⟩ := hasB_nat hb
    rw [Int.toNat_natCast, Int.toNat_natCast]
    exact Nat.le_of_eq (sec_len (h.drv x hx).len hy)
  · simp

/-- Where a call's two lists lie. -/
structure Pl where
  a3 : Option Addr
  c3 : Nat
  a4 : Option Addr
  c4 : Nat
def Cl.val (c : Cl) (p : Pl) : Value := .agg #[.int .i64 c.what, .int .i64 c.i, .int .i64 c.n, .slice p.a3 c.zs.length p.c3, .slice p.a4 c.ks.length p.c4]
structure ClAt (w : World) (N : Nat → Prop) (c : Cl) (p : Pl) : Prop where
  big : c.n ≤ 9223372036854775807
  hz : Bys w p.a3 c.zs.length c.zs
  n3 : p.a3 = none → c.zs.length = 0 ∧ p.c3 = 0
  m3 : c.zs.length = 0 ∨ ∀ b off, p.a3 = some ⟨b, off, none⟩ → ¬ N b
  l3 : c.zs.length ≤ 1000000000000
  hk : Ins w p.a4 c.ks.length c.ks
  n4 : p.a4 = none → c.ks.length = 0 ∧ p.c4 = 0
  m4 : c.ks.length = 0 ∨ ∀ b off, p.a4 = some ⟨b, off, none⟩ → ¬ N b
  l4 : c.ks.length ≤ 1000000000000

/-- What 'told' answers. -/
def tb (R : Rk) (F : Rf) (c : Cl) : Bool :=
  if c.what = 0 then sameB (R.rdV c.i c.n) (F.rdV c.i c.n) && (R.rdE c.i c.n == F.rdE c.i c.n)
  else if c.what = 1 then R.wrE c.i c.n c.zs == F.wrE c.i c.n c.zs
  else if c.what = 2 then R.flE c.i == F.flE c.i
  else if c.what = 4 then R.dkE c.i == F.dkE c.i
  else if c.what = 6 then R.dkE c.i == F.dkE c.i
  else if c.what = 7 then sameB (R.laV c.i c.n) (F.laV c.i c.n) && (R.laE c.i c.n == F.laE c.i c.n)
  else (R.step c).off == (F.step c).dead && (R.step c).failed c.i == (F.step c).failed c.i

theorem told_any (L : Lay) (K : RLay) (R : Rk) (F : Rf) (w : World) (c : Cl) (p : Pl) (h : Both w L K R F) (hc : ClAt w (BothM L K R) c p) (hn : R.n = F.n) (ho : (R.step c).off = (F.step c).dead)
    (hW : R.wrE c.i c.n c.zs = F.wrE c.i c.n c.zs ∨ (R.wrE c.i c.n c.zs = 13 ∧ F.wrE c.i c.n c.zs = 0)) :
    Calls Try.prog 13 #[.pointer (some ⟨L.p, 0, none⟩), .pointer (some ⟨K.p, 0, none⟩), c.val p] w (ToldPost L K R (R.step c) (F.step c) (tb R F c) w) := by
  obtain ⟨what, i, n, zs, ks⟩ := c
  obtain ⟨a3, c3, a4, c4⟩ := p
  obtain ⟨big, hz, n3, m3, l3, hk, n4, m4, l4⟩ := hc
  simp only at big hz n3 m3 l3 hk n4 m4 l4 hW
  have s3 : ∃ a x y, Value.slice a3 zs.length c3 = .slice a x y := ⟨_, _, _, rfl⟩
  have s4 : ∃ a x y, Value.slice a4 ks.length c4 = .slice a x y := ⟨_, _, _, rfl⟩
  have hd : R.dkE i = F.dkE i := by unfold Rk.dkE Rf.dkE; rw [hn]
  unfold Cl.val
  simp only
  by_cases e0 : what = 0
  · subst e0
    exact told_read L K R F w i n _ _ h s3 s4 (rdV_le h.rk i n)
  by_cases e1 : what = 1
  · subst e1
    rcases hW with hW | ⟨hW, hF⟩
    · exact told_write L K R F w i n _ a3 c3 zs h s4 hz n3 m3 l3 hW
    · exact told_write_un L K R F w i n _ a3 c3 zs h s4 hz n3 m3 l3 hW hF
  by_cases e2 : what = 2
  · subst e2
    exact told_flush L K R F w i n _ _ h s3 s4
  by_cases e3 : what = 3
  · subst e3
    exact told_arm L K R _ F _ w i n _ _ h big rfl rfl ho s3 s4
  by_cases e4 : what = 4
  · subst e4
    exact told_doom L K R F w i n _ _ h big s3 s4
  by_cases e5 : what = 5
  · subst e5
    exact told_restore L K R _ F _ w i n _ a4 _ c4 ks h rfl rfl ho s3 hk n4 m4 l4
  by_cases e6 : what = 6
  · subst e6
    exact told_load L K R F w i n _ a3 c3 zs h s4 hz n3 m3 l3 hd
  by_cases e7 : what = 7
  · subst e7
    exact told_lasting L K R F w i n _ _ h s3 s4 (laV_le h.rk i n)
  have hr : R.step ⟨what, i, n, zs, ks⟩ = R := by unfold Rk.step; simp [e1, e2, e3, e4, e5, e6]
  have hf : F.step ⟨what, i, n, zs, ks⟩ = F := by unfold Rf.step; simp [e1, e2, e3, e4, e5, e6]
  rw [hr, hf] at ho ⊢
  have := told_else L K R F w what i n _ _ h ho s3 s4 e0 e1 e2 e3 e4 e5 e6 e7
  have ht : tb R F ⟨what, i, n, zs, ks⟩ = (R.off == F.dead && R.failed i == F.failed i) := by unfold tb; simp only [e0, e1, e2, e4, e6, e7, if_false, hr, hf]
  rw [ht]
  exact this

end Go.Proofs.Ytcgemckookefmaa
