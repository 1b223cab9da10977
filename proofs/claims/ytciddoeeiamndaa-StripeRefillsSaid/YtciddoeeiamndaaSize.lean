/-
  The program's Size, by contract.
-/
import Derived.Test.YtciddoeeiamndaaOps
namespace Go.Proofs.Ytciddoeeiamndaa
open Go.RowKit Go.Maps

theorem size_rack (M : Nat → Prop) (L : Lay) (R : Rk) (w : World) (h : RackAt w M L R) :
    Calls Try.prog 84 #[.pointer (some ⟨L.p, 0, none⟩)] w fun e w' => e = .returned (.tuple #[.int .i64 R.n, .int .i64 R.S]) ∧ Below w.heap.size w w' := by
  have c0 := h.c0
  have c1 := h.c1
  go_enter Try.func84, Try.ntmps84
  go_wp2_with (fail)
  go_quiet (fail)
  go_wp2_with (fail)
  go_ret2
  exact ⟨rfl, below_drewN (Below.refl _ _) nq⟩

end Go.Proofs.Ytciddoeeiamndaa
