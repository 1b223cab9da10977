/-
  A disk of the program's rack, and its functions, by contract.
-/
import Derived.Test.YtciddoeeiamndaaDev0
import Derived.Test.YtciddoeeiamndaaMap
namespace Go.Proofs.Ytciddoeeiamndaa
open Go.RowKit Go.Maps

/-- What a disk is: its bytes, what is cached of its sectors, has it failed, its count. -/
structure Dk where
  last : List Int
  cache : Nat → Option (List Int)
  bad : Bool
  cnt : Int

/-- A disk of S sectors whose four cells lie in block db from place o on. -/
structure DrvAt (w : World) (M : Nat → Prop) (S db o lb mb : Nat) (d : Dk) : Prop where
  c0 : w.cell? ⟨db, o, none⟩ = some (.slice (some ⟨lb, 0, none⟩) (S * 64) (S * 64))
  c1 : w.cell? ⟨db, o + 1, none⟩ = some (.map (some mb))
  c2 : w.cell? ⟨db, o + 2, none⟩ = some (.bool d.bad)
  c3 : w.cell? ⟨db, o + 3, none⟩ = some (.int .i64 d.cnt)
  blk : Blk w lb d.last
  len : d.last.length = S * 64
  small : AllB d.last
  cache : CacheAt w M S mb d.cache
  big : d.cnt ≤ 9223372036854775807

/-- What a sector reads as. -/
def Dk.read (d : Dk) (s : Nat) : List Int := (d.cache s).getD (sec d.last s)

theorem RetB.mk {w0 w' : World} {v : Value} {n : Nat} {zs : List Int} (h : Own w' w0.heap.size v n zs) (hb : Below w0.heap.size w0 w') : RetB w0 zs (.returned v) w' := RetB.own h hb

theorem read_any (M : Nat → Prop) (S db o lb mb s : Nat) (d : Dk) (w : World) (h : DrvAt w M S db o lb mb d) (hS : S ≤ 4096) (hs : s < S) :
    Calls Try.prog 54 #[.pointer (some ⟨db, o, none⟩), .int .i64 s] w (RetB w (d.read s)) := by
  obtain ⟨n, D, hc⟩ := h.cache
  have c0 := h.c0
  have c1 := h.c1
  cases e : d.cache s with
  | some zs =>
    have er : d.read s = zs := by simp [Dk.read, e]
    obtain ⟨g, c, hg, hy, hrun⟩ := hc.look hS hs e
    rw [er]
    clear hc er e
    go_enter Try.func54, Try.ntmps54
    go_wp2_with (go_at_call 52; refine (clone_any _ _ _ _ _ _ hy (by omega)).mono ?_; rintro e w' ⟨v, rfl, hown, hb⟩)
    go_ret
    exact RetB.own hown hb
  | none =>
    have er : d.read s = sec d.last s := by simp [Dk.read, e]
    have hrun := hc.miss hS hs e
    have hy := h.blk.sec h.len h.small hs
    rw [er]
    clear hc er e
    go_enter Try.func54, Try.ntmps54
    go_wp2_with (first
      | (go_at_call 53; refine (lastingOf_any db o lb s S w c0 hs hS).mono ?_; rintro e w' ⟨rfl, rfl⟩)
      | (go_at_call 52; refine (clone_any _ _ _ _ _ _ hy (by omega)).mono ?_; rintro e w' ⟨v, rfl, hown, hb⟩))
    go_ret
    exact RetB.own hown hb

/-- The image's bytes, and noughts behind them, as many as the disk has. -/
def loadL (S : Nat) (zs : List Int) : List Int := zs.take (S * 64) ++ List.replicate (S * 64 - zs.length) 0
theorem loadL_len (S : Nat) (zs : List Int) : (loadL S zs).length = S * 64 := by simp [loadL]; omega
theorem loadL_small (S : Nat) {zs : List Int} (h : AllB zs) : AllB (loadL S zs) := (h.take _).app (AllB.zeros _)
theorem byt_loadL {S : Nat} {zs : List Int} {i : Nat} (h : i < S * 64) : byt (loadL S zs) i = byt zs i := by
  unfold loadL
  rw [byt_pad, byt_take h]

/-- Blocks other than the disk's own two. -/
def Own2 (lb mb : Nat) : Nat → Prop := fun k => k = lb ∨ k = mb

theorem DrvAt.lt {w : World} {M : Nat → Prop} {S db o lb mb : Nat} {d : Dk} (h : DrvAt w M S db o lb mb d) : db < w.heap.size := World.block_lt_of_cell? w _ h.c0

end Go.Proofs.Ytciddoeeiamndaa
