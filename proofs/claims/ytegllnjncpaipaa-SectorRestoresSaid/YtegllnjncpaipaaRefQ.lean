/-
  The reference's Parity, of whatever row.
-/
import Derived.Test.YtegllnjncpaipaaRefP
namespace Go.Proofs.Ytegllnjncpaipaa
open Go.RowKit

set_option maxHeartbeats 1000000 in
theorem refPar_any (a : Option Addr) (n c : Nat) (f : Nat → Pc) (w : World) (h : Rws w a n f) (hn : n ≤ 9223372036854775807) :
    Calls Try.prog 19 #[.slice a n c] w (RetT w (parL f n) (oneSeq f n)) := by
  by_cases h0 : n = 0
  · subst h0
    clear h
    go_enter Try.func19, Try.ntmps19
    go_wp2_with (fail)
    go_ret2
    exact RetT.nil _ _
  · by_cases h64 : (f 0).zs.length = 64
    · exact refPar_some a n c f w h hn (by omega) h64
    · obtain ⟨b, off, x, m, d, zs, rfl, hbl, hc, hp, hz, hm⟩ := h.at (i := 0) (by omega)
      rw [Nat.add_zero] at hc
      have ho : oneSeq f n = false := by
        refine oneSeq_no (k := 1) (by omega) ?_
        simp [oneUpto, is64, h64]
      have hP : Hid (parL f n = []) := by show _ = _; rw [parL, ho]; rfl
      have HO := Lib.hid ho
      have hml : m ≠ 64 := by rw [← hp.len, ← hz]; exact h64
      have hm' : ((m : Int) != 64) = true := by simp; omega
      have hpc := hp.cap
      have hpm := hp.max
      have h1 : ((n : Int) == 0) = false := by simp; omega
      clear h hz hp hm ho h64 hml
      go_enter Try.func19, Try.ntmps19
      go_wp2_with (fail)
      go_ret2
      rw [hP.out, HO.out]
      exact RetT.nil _ _

end Go.Proofs.Ytegllnjncpaipaa
