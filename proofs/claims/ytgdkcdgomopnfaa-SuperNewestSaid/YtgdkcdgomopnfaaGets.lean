/-
  The program's Gets, by contract.
-/
import Derived.Test.YtgdkcdgomopnfaaNumb
import Derived.Test.YtgdkcdgomopnfaaLib
namespace Go.Proofs.Ytgdkcdgomopnfaa
open Go.RowKit

abbrev fv (k : FuncId) : Value := .func (.func k) #[] #[]
/-- What stands in a mark's place. -/
def gmN (x : List Int) : Int := getV x.length x 4 4
def gmO (x : List Int) : Bool := markO (gmN x) && sameB (markL (gmN x)) x
def gmV (x : List Int) : Int := if gmO x then gmN x else 0
def MarkPost (w : World) (x : List Int) (e : Ending) (w' : World) : Prop := e = .returned (.tuple #[mv (gmV x), .bool (gmO x)]) ∧ Below w.heap.size w w'
theorem numsL2 (x : List Int) : numsL x (wids 2) (wids 2).length = [gmN x] := rfl
set_option maxHeartbeats 2000000 in
theorem toldMark_any (a : Option Addr) (n c : Nat) (x : List Int) (w : World) (hx : Bys w a n x) (hn : n ≤ 1000000000000) :
    Calls Try.prog 40 #[.slice a n c, .int .i64 2, fv 41, fv 12] w (MarkPost w x) := by
  obtain ⟨wa, hwa⟩ : ∃ wa, wa = w.alloc (.cells #[.int .i64 0] 27 (0, 0)) := ⟨_, rfl⟩
  have h1 : M1 wa w.heap.size 0 := by rw [hwa]; exact M1.mk' w 0 _
  have hB1 : Below w.heap.size w wa := by rw [hwa]; exact bel_a1 w _
  have hx1 := hx.next hB1
  clear hx
  go_enter Try.func40, Try.ntmps40
  go_wp2_with (fail)
  rw [← hwa]
  clear hwa
  refine (numbers_any 2 a n c x wa (.inr (.inl rfl)) hx1 hn).mono ?_
  rintro e w2 ⟨a2, c2, rfl, hi2, hb2⟩
  rw [numsL2] at hi2 ⊢
  obtain ⟨s, hs⟩ : ∃ s, s = gmN x := ⟨_, rfl⟩
  rw [← hs] at hi2 ⊢
  have HS := Lib.hid hs
  clear hs
  rw [show [s].length = 1 from rfl] at hi2 ⊢
  have h2 := h1.next hb2
  have hB2 := hB1.trans (hb2.mono (Nat.le_of_lt h1.lt))
  have hx2 := hx1.next hb2
  clear h1 hB1 hx1 hb2
  go_wp2_with (fail)
  refine (markOf_any a2 c2 s w2 hi2).mono ?_
  rintro e w3 ⟨rfl, hb3⟩
  have h3 := h2.next hb3
  have hB3 := hB2.trans (hb3.mono (Nat.le_of_lt h2.lt))
  have hx3 := hx2.next hb3
  clear h2 hB2 hx2 hb3 hi2
  obtain ⟨wb, hwb⟩ : ∃ wb, wb = w3.alloc (.cells #[.int .i64 s] 27 (0, 0)) := ⟨_, rfl⟩
  have g4 : M1 wb w3.heap.size s := by rw [hwb]; exact M1.mk' w3 s _
  have h4 : M1 wb w.heap.size 0 := by rw [hwb]; exact h3.alloc _
  have hB4 : Below w.heap.size w wb := by rw [hwb]; exact hB3.alloc (Nat.le_of_lt h3.lt) _
  have hx4 : Bys wb a n x := by rw [hwb]; exact hx3.alloc _
  have hlt3 := h3.lt
  go_wp2_with (fail)
  rw [← hwb]
  clear hwb h3 hB3 hx3
  refine (putMark_any s wb).mono ?_
  intro e w5 hp
  have hb5 := hp.2
  have g5 := g4.next hb5
  have h5 := h4.next hb5
  have hB5 := hB4.trans (hb5.mono (Nat.le_of_lt h4.lt))
  have hx5 := hx4.next hb5
  clear g4 h4 hB4 hx4 hb5
  have y1 := g5.c0
  have y2 := h5.c0
  have y3 := h5.f0
  have lt5 := h5.lt
  rcases hp.1 with ⟨ho, g, rfl, hg, hbk, hsm, hlen⟩ | ⟨ho, hz, rfl⟩
  · have hlt5 := g5.lt
    go_wp2_with (fail)
    refine (equal_any _ a 64 64 n c (markL s) x w5 (hbk.bysn hsm hlen) hx5).mono ?_
    rintro e w6 ⟨rfl, rfl⟩
    clear hbk hx5 hp
    cases hq : sameB (markL s) x
    · have hO : Hid (gmO x = false) := by show _ = _; rw [gmO, ← HS.out, hq, Bool.and_false]
      have hV : Hid (gmV x = 0) := by show _ = _; rw [gmV, hO.out]; rfl
      clear hq
      go_wp2_with (fail)
      have z1 := ((h5.set 0).alloc (.cells #[.int .i64 0] 27 (0, 0))).c0
      exact bodyPost_ret (v := .tuple #[mv 0, .bool false]) (by simp [results, Try.results40, go_sem, z1]) rfl ⟨by rw [hO.out, hV.out], (hB5.setCell (Nat.le_refl _) _).alloc (by simpa using hB5.size) _⟩
    · have hO : Hid (gmO x = true) := by show _ = _; rw [gmO, ← HS.out, hq, ho]; rfl
      have hV : Hid (gmV x = s) := by show _ = _; rw [gmV, hO.out, HS.out]; rfl
      clear hq
      go_wp2_with (fail)
      exact bodyPost_ret (v := .tuple #[mv s, .bool true]) (by simp [results, Try.results40, go_sem, y2]) rfl ⟨by rw [hO.out, hV.out], hB5.setCell (Nat.le_refl _) _⟩
  · have hO : Hid (gmO x = false) := by show _ = _; rw [gmO, ← HS.out, ho]; rfl
    have hV : Hid (gmV x = 0) := by show _ = _; rw [gmV, hO.out]; rfl
    clear hp hx5
    go_wp2_with (fail)
    have z1 := ((h5.set 0).alloc (.cells #[.int .i64 0] 27 (0, 0))).c0
    exact bodyPost_ret (v := .tuple #[mv 0, .bool false]) (by simp [results, Try.results40, go_sem, z1]) rfl ⟨by rw [hO.out, hV.out], (hB5.setCell (Nat.le_refl _) _).alloc (by simpa using hB5.size) _⟩
/-- What stands in a super's place. -/
def gs1 (x : List Int) : Int := getV x.length x 4 1
def gs2 (x : List Int) : Int := getV x.length x 5 1
def gs3 (x : List Int) : Int := getV x.length x 6 1
def gsO (x : List Int) : Bool := rtB (gs1 x) (gs2 x) (gs3 x) && sameB (superL (gs1 x) (gs2 x) (gs3 x)) x
def gsV (x : List Int) : Value := if gsO x then sv (gs1 x) (gs2 x) (gs3 x) else sv 0 0 0
def SuperPost (w : World) (x : List Int) (e : Ending) (w' : World) : Prop := e = .returned (.tuple #[gsV x, .bool (gsO x)]) ∧ Below w.heap.size w w'
theorem numsL1 (x : List Int) : numsL x (wids 1) (wids 1).length = [gs1 x, gs2 x, gs3 x] := rfl
set_option maxHeartbeats 2000000 in
theorem toldSuper_any (a : Option Addr) (n c : Nat) (x : List Int) (w : World) (hx : Bys w a n x) (hn : n ≤ 1000000000000) :
    Calls Try.prog 37 #[.slice a n c, .int .i64 1, fv 38, fv 10] w (SuperPost w x) := by
  obtain ⟨wa, hwa⟩ : ∃ wa, wa = w.alloc (.cells #[.int .i64 0, .int .i64 0, .int .i64 0] 25 (0, 0)) := ⟨_, rfl⟩
  have h1 : M3 wa w.heap.size 0 0 0 := by rw [hwa]; exact M3.mk' w 0 0 0 _
  have hB1 : Below w.heap.size w wa := by rw [hwa]; exact bel_a1 w _
  have hx1 := hx.next hB1
  clear hx
  go_enter Try.func37, Try.ntmps37
  go_wp2_with (fail)
  rw [← hwa]
  clear hwa
  refine (numbers_any 1 a n c x wa (.inl rfl) hx1 hn).mono ?_
  rintro e w2 ⟨a2, c2, rfl, hi2, hb2⟩
  rw [numsL1] at hi2 ⊢
  obtain ⟨d, hd⟩ : ∃ s, s = gs1 x := ⟨_, rfl⟩
  obtain ⟨r, hr⟩ : ∃ s, s = gs2 x := ⟨_, rfl⟩
  obtain ⟨s, hs⟩ : ∃ s, s = gs3 x := ⟨_, rfl⟩
  rw [← hd, ← hr, ← hs] at hi2 ⊢
  have HD := Lib.hid hd
  have HR := Lib.hid hr
  have HS := Lib.hid hs
  clear hd hr hs
  rw [show [d, r, s].length = 3 from rfl] at hi2 ⊢
  have h2 := h1.next hb2
  have hB2 := hB1.trans (hb2.mono (Nat.le_of_lt h1.lt))
  have hx2 := hx1.next hb2
  clear h1 hB1 hx1 hb2
  go_wp2_with (fail)
  refine (superOf_any a2 c2 d r s w2 hi2).mono ?_
  rintro e w3 ⟨rfl, hb3⟩
  have h3 := h2.next hb3
  have hB3 := hB2.trans (hb3.mono (Nat.le_of_lt h2.lt))
  have hx3 := hx2.next hb3
  clear h2 hB2 hx2 hb3 hi2
  obtain ⟨wb, hwb⟩ : ∃ wb, wb = w3.alloc (.cells #[.int .i64 d, .int .i64 r, .int .i64 s] 25 (0, 0)) := ⟨_, rfl⟩
  have g4 : M3 wb w3.heap.size d r s := by rw [hwb]; exact M3.mk' w3 d r s _
  have h4 : M3 wb w.heap.size 0 0 0 := by rw [hwb]; exact h3.alloc _
  have hB4 : Below w.heap.size w wb := by rw [hwb]; exact hB3.alloc (Nat.le_of_lt h3.lt) _
  have hx4 : Bys wb a n x := by rw [hwb]; exact hx3.alloc _
  have hlt3 := h3.lt
  go_wp2_with (fail)
  rw [← hwb]
  clear hwb h3 hB3 hx3
  refine (putSuper_any d r s wb).mono ?_
  intro e w5 hp
  have hb5 := hp.2
  have g5 := g4.next hb5
  have h5 := h4.next hb5
  have hB5 := hB4.trans (hb5.mono (Nat.le_of_lt h4.lt))
  have hx5 := hx4.next hb5
  clear g4 h4 hB4 hx4 hb5
  have y1 := g5.c0
  have y2 := g5.c1
  have y3 := g5.c2
  have z1 := h5.c0
  have z2 := h5.c1
  have z3 := h5.c2
  have f1 := h5.f0
  have f2 := h5.f1
  have f3 := h5.f2
  have lt5 := h5.lt
  rcases hp.1 with ⟨ho, g, rfl, hg, hbk, hsm, hlen⟩ | ⟨ho, hz, rfl⟩
  · have hlt5 := g5.lt
    go_wp2_with (fail)
    refine (equal_any _ a 64 64 n c (superL d r s) x w5 (hbk.bysn hsm hlen) hx5).mono ?_
    rintro e w6 ⟨rfl, rfl⟩
    clear hbk hx5 hp
    cases hq : sameB (superL d r s) x
    · have hO : Hid (gsO x = false) := by show _ = _; rw [gsO, ← HD.out, ← HR.out, ← HS.out, hq, Bool.and_false]
      have hV : Hid (gsV x = sv 0 0 0) := by show _ = _; rw [gsV, hO.out]; rfl
      clear hq
      go_wp2_with (fail)
      have k := (h5.set 0 0 0).alloc (.cells #[.int .i64 0, .int .i64 0, .int .i64 0] 25 (0, 0))
      have k0 := k.c0
      have k1 := k.c1
      have k2 := k.c2
      unfold setH at k0 k1 k2
      exact bodyPost_ret (v := .tuple #[sv 0 0 0, .bool false]) (by simp [results, Try.results37, go_sem, k0, k1, k2]) rfl ⟨by rw [hO.out, hV.out], (hB5.setH (Nat.le_refl _)).alloc (by simpa [setH] using hB5.size) _⟩
    · have hO : Hid (gsO x = true) := by show _ = _; rw [gsO, ← HD.out, ← HR.out, ← HS.out, hq, ho]; rfl
      have hV : Hid (gsV x = sv d r s) := by show _ = _; rw [gsV, hO.out, HD.out, HR.out, HS.out]; rfl
      clear hq
      go_wp2_with (fail)
      have k := h5.set d r s
      have k0 := k.c0
      have k1 := k.c1
      have k2 := k.c2
      unfold setH at k0 k1 k2
      exact bodyPost_ret (v := .tuple #[sv d r s, .bool true]) (by simp [results, Try.results37, go_sem, k0, k1, k2]) rfl ⟨by rw [hO.out, hV.out], hB5.setH (Nat.le_refl _)⟩
  · have hO : Hid (gsO x = false) := by show _ = _; rw [gsO, ← HD.out, ← HR.out, ← HS.out, ho]; rfl
    have hV : Hid (gsV x = sv 0 0 0) := by show _ = _; rw [gsV, hO.out]; rfl
    clear hp hx5
    go_wp2_with (fail)
    have k := (h5.set 0 0 0).alloc (.cells #[.int .i64 0, .int .i64 0, .int .i64 0] 25 (0, 0))
    have k0 := k.c0
    have k1 := k.c1
    have k2 := k.c2
    unfold setH at k0 k1 k2
    exact bodyPost_ret (v := .tuple #[sv 0 0 0, .bool false]) (by simp [results, Try.results37, go_sem, k0, k1, k2]) rfl ⟨by rw [hO.out, hV.out], (hB5.setH (Nat.le_refl _)).alloc (by simpa [setH] using hB5.size) _⟩

/-- What stands in a member's place. -/
def gb1 (x : List Int) : Int := getV x.length x 4 4
def gb2 (x : List Int) : Int := getV x.length x 8 1
def gb3 (x : List Int) : Int := getV x.length x 9 1
def gbO (x : List Int) : Bool := memO (gb1 x) (gb2 x) (gb3 x) && sameB (memL (gb1 x) (gb2 x) (gb3 x)) x
def gbV (x : List Int) : Value := if gbO x then bv (gb1 x) (gb2 x) (gb3 x) else bv 0 0 0
def MemberPost (w : World) (x : List Int) (e : Ending) (w' : World) : Prop := e = .returned (.tuple #[gbV x, .bool (gbO x)]) ∧ Below w.heap.size w w'
theorem numsL3 (x : List Int) : numsL x (wids 3) (wids 3).length = [gb1 x, gb2 x, gb3 x] := rfl
set_option maxHeartbeats 2000000 in
theorem toldMember_any (a : Option Addr) (n c : Nat) (x : List Int) (w : World) (hx : Bys w a n x) (hn : n ≤ 1000000000000) :
    Calls Try.prog 42 #[.slice a n c, .int .i64 3, fv 43, fv 14] w (MemberPost w x) := by
  obtain ⟨wa, hwa⟩ : ∃ wa, wa = w.alloc (.cells #[.int .i64 0, .int .i64 0, .int .i64 0] 29 (0, 0)) := ⟨_, rfl⟩
  have h1 : M3 wa w.heap.size 0 0 0 := by rw [hwa]; exact M3.mk' w 0 0 0 _
  have hB1 : Below w.heap.size w wa := by rw [hwa]; exact bel_a1 w _
  have hx1 := hx.next hB1
  clear hx
  go_enter Try.func42, Try.ntmps42
  go_wp2_with (fail)
  rw [← hwa]
  clear hwa
  refine (numbers_any 3 a n c x wa (.inr (.inr rfl)) hx1 hn).mono ?_
  rintro e w2 ⟨a2, c2, rfl, hi2, hb2⟩
  rw [numsL3] at hi2 ⊢
  obtain ⟨d, hd⟩ : ∃ s, s = gb1 x := ⟨_, rfl⟩
  obtain ⟨r, hr⟩ : ∃ s, s = gb2 x := ⟨_, rfl⟩
  obtain ⟨s, hs⟩ : ∃ s, s = gb3 x := ⟨_, rfl⟩
  rw [← hd, ← hr, ← hs] at hi2 ⊢
  have HD := Lib.hid hd
  have HR := Lib.hid hr
  have HS := Lib.hid hs
  clear hd hr hs
  rw [show [d, r, s].length = 3 from rfl] at hi2 ⊢
  have h2 := h1.next hb2
  have hB2 := hB1.trans (hb2.mono (Nat.le_of_lt h1.lt))
  have hx2 := hx1.next hb2
  clear h1 hB1 hx1 hb2
  go_wp2_with (fail)
  refine (memberOf_any a2 c2 d r s w2 hi2).mono ?_
  rintro e w3 ⟨rfl, hb3⟩
  have h3 := h2.next hb3
  have hB3 := hB2.trans (hb3.mono (Nat.le_of_lt h2.lt))
  have hx3 := hx2.next hb3
  clear h2 hB2 hx2 hb3 hi2
  obtain ⟨wb, hwb⟩ : ∃ wb, wb = w3.alloc (.cells #[.int .i64 d, .int .i64 r, .int .i64 s] 29 (0, 0)) := ⟨_, rfl⟩
  have g4 : M3 wb w3.heap.size d r s := by rw [hwb]; exact M3.mk' w3 d r s _
  have h4 : M3 wb w.heap.size 0 0 0 := by rw [hwb]; exact h3.alloc _
  have hB4 : Below w.heap.size w wb := by rw [hwb]; exact hB3.alloc (Nat.le_of_lt h3.lt) _
  have hx4 : Bys wb a n x := by rw [hwb]; exact hx3.alloc _
  have hlt3 := h3.lt
  go_wp2_with (fail)
  rw [← hwb]
  clear hwb h3 hB3 hx3
  refine (putMember_any d r s wb).mono ?_
  intro e w5 hp
  have hb5 := hp.2
  have g5 := g4.next hb5
  have h5 := h4.next hb5
  have hB5 := hB4.trans (hb5.mono (Nat.le_of_lt h4.lt))
  have hx5 := hx4.next hb5
  clear g4 h4 hB4 hx4 hb5
  have y1 := g5.c0
  have y2 := g5.c1
  have y3 := g5.c2
  have z1 := h5.c0
  have z2 := h5.c1
  have z3 := h5.c2
  have f1 := h5.f0
  have f2 := h5.f1
  have f3 := h5.f2
  have lt5 := h5.lt
  rcases hp.1 with ⟨ho, g, rfl, hg, hbk, hsm, hlen⟩ | ⟨ho, hz, rfl⟩
  · have hlt5 := g5.lt
    go_wp2_with (fail)
    refine (equal_any _ a 64 64 n c (memL d r s) x w5 (hbk.bysn hsm hlen) hx5).mono ?_
    rintro e w6 ⟨rfl, rfl⟩
    clear hbk hx5 hp
    cases hq : sameB (memL d r s) x
    · have hO : Hid (gbO x = false) := by show _ = _; rw [gbO, ← HD.out, ← HR.out, ← HS.out, hq, Bool.and_false]
      have hV : Hid (gbV x = bv 0 0 0) := by show _ = _; rw [gbV, hO.out]; rfl
      clear hq
      go_wp2_with (fail)
      have k := (h5.set 0 0 0).alloc (.cells #[.int .i64 0, .int .i64 0, .int .i64 0] 29 (0, 0))
      have k0 := k.c0
      have k1 := k.c1
      have k2 := k.c2
      unfold setH at k0 k1 k2
      exact bodyPost_ret (v := .tuple #[bv 0 0 0, .bool false]) (by simp [results, Try.results42, go_sem, k0, k1, k2]) rfl ⟨by rw [hO.out, hV.out], (hB5.setH (Nat.le_refl _)).alloc (by simpa [setH] using hB5.size) _⟩
    · have hO : Hid (gbO x = true) := by show _ = _; rw [gbO, ← HD.out, ← HR.out, ← HS.out, hq, ho]; rfl
      have hV : Hid (gbV x = bv d r s) := by show _ = _; rw [gbV, hO.out, HD.out, HR.out, HS.out]; rfl
      clear hq
      go_wp2_with (fail)
      have k := h5.set d r s
      have k0 := k.c0
      have k1 := k.c1
      have k2 := k.c2
      unfold setH at k0 k1 k2
      exact bodyPost_ret (v := .tuple #[bv d r s, .bool true]) (by simp [results, Try.results42, go_sem, k0, k1, k2]) rfl ⟨by rw [hO.out, hV.out], hB5.setH (Nat.le_refl _)⟩
  · have hO : Hid (gbO x = false) := by show _ = _; rw [gbO, ← HD.out, ← HR.out, ← HS.out, ho]; rfl
    have hV : Hid (gbV x = bv 0 0 0) := by show _ = _; rw [gbV, hO.out]; rfl
    clear hp hx5
    go_wp2_with (fail)
    have k := (h5.set 0 0 0).alloc (.cells #[.int .i64 0, .int .i64 0, .int .i64 0] 29 (0, 0))
    have k0 := k.c0
    have k1 := k.c1
    have k2 := k.c2
    unfold setH at k0 k1 k2
    exact bodyPost_ret (v := .tuple #[bv 0 0 0, .bool false]) (by simp [results, Try.results42, go_sem, k0, k1, k2]) rfl ⟨by rw [hO.out, hV.out], (hB5.setH (Nat.le_refl _)).alloc (by simpa [setH] using hB5.size) _⟩

end Go.Proofs.Ytgdkcdgomopnfaa
