/-
  SuperBack, walked.
-/
import Derived.Test.YtgdkcdgomopnfaaAl5
namespace Go.Proofs.Ytgdkcdgomopnfaa
open Go.RowKit

set_option maxHeartbeats 16000000 in
theorem back_law (d r s k m t u : Int) (w : World) :
    Calls Try.prog 5 #[sv d r s, mv k, bv m t u] w fun e w' => e = .returned (.bool true) ∧ Below w.heap.size w w' := by
  obtain ⟨w0, hw0⟩ : ∃ w0, w0 = ((w.alloc (.cells #[.int .i64 d, .int .i64 r, .int .i64 s] 25 (0, 0))).alloc (.cells #[.int .i64 k] 27 (0, 0))).alloc (.cells #[.int .i64 m, .int .i64 t, .int .i64 u] 29 (0, 0)) := ⟨_, rfl⟩
  have a : M3 w0 w.heap.size d r s := by rw [hw0]; exact ((M3.mk' w d r s _).alloc _).alloc _
  have b : M1 w0 (w.heap.size + 1) k := by rw [hw0]; have := (M1.mk' (w.alloc (.cells #[.int .i64 d, .int .i64 r, .int .i64 s] 25 (0, 0))) k 27).alloc (.cells #[.int .i64 m, .int .i64 t, .int .i64 u] 29 (0, 0)); simpa using this
  have c : M3 w0 (w.heap.size + 2) m t u := by rw [hw0]; have := M3.mk' ((w.alloc (.cells #[.int .i64 d, .int .i64 r, .int .i64 s] 25 (0, 0))).alloc (.cells #[.int .i64 k] 27 (0, 0))) m t u 29; simpa using this
  have hB : Below w.heap.size w w0 := by rw [hw0]; exact ((bel_a1 w _).alloc (by simp) _).alloc (by simp; omega) _
  go_enter Try.func5, Try.ntmps5
  go_wp2_with (fail)
  rw [← hw0]
  clear hw0
  refine (alive_any w0).mono ?_
  rintro e w1 ⟨rfl, hb⟩
  replace a := a.next hb
  replace b := b.next hb
  replace c := c.next hb
  replace hB := hB.trans (hb.mono hB.size)
  clear hb
  have y0 := a.c0
  have y1 := a.c1
  have y2 := a.c2
  go_wp2_with (fail)
  refine (putSuper_any d r s _).mono ?_
  intro e w2 hp
  clear y0 y1 y2
  cases hr : rtB d r s
  · rw [hr] at hp
    obtain ⟨rfl, _, hb⟩ := hp.not
    clear hp hr
    clear a
    replace b := b.next hb
    replace c := c.next hb
    replace hB := hB.trans (hb.mono hB.size)
    clear hb
    have y0 := b.c0
    go_wp2_with (fail)
    refine (putMark_any k _).mono ?_
    intro e w3 hp
    rw [markO_iff] at hp
    clear y0
    cases hr : hasW k 4
    · rw [hr] at hp
      obtain ⟨rfl, _, hb⟩ := hp.not
      clear hp hr
      clear b
      replace c := c.next hb
      replace hB := hB.trans (hb.mono hB.size)
      clear hb
      have y0 := c.c0
      have y1 := c.c1
      have y2 := c.c2
      go_wp2_with (fail)
      refine (putMember_any m t u _).mono ?_
      intro e w4 hp
      clear y0 y1 y2
      cases hr : memO m t u
      · rw [hr] at hp
        obtain ⟨rfl, _, hb⟩ := hp.not
        clear hp hr
        clear c
        replace hB := hB.trans (hb.mono hB.size)
        clear hb
        go_wp2_with (fail)
        go_ret
        exact ⟨rfl, hB⟩
      · rw [hr] at hp
        obtain ⟨g, rfl, _, hbk, hsm, hl, hb⟩ := hp.yes
        have K := mem_ok hr
        have ks := K.small
        have o0 := K.o
        have v0 := K.v
        have o1 := K.ns
        have v1 : gsV (memL m t u) = sv 0 0 0 := by rw [gsV, o1]; rfl
        have o2 := K.nm
        have v2 : gmV (memL m t u) = 0 := by rw [gmV, o2]; rfl
        have hby := hbk.bysn hsm hl
        obtain ⟨L, hL⟩ : ∃ L, L = memL m t u := ⟨_, rfl⟩
        rw [← hL] at hby o0 v0 o1 v1 o2 v2
        clear hL K hsm hl hbk hp hr ks
        replace c := c.next hb
        replace hB := hB.trans (hb.mono hB.size)
        clear hb
        go_wp2_with (fail)
        refine (getMember_any _ 64 64 L _ hby (by omega)).mono ?_
        rintro e w5 ⟨rfl, hb⟩
        rw [o0, v0]
        replace c := (c.next hb).alloc (.cells #[.int .i64 m, .int .i64 t, .int .i64 u] 29 (0, 0))
        replace hby := (hby.next hb).alloc (.cells #[.int .i64 m, .int .i64 t, .int .i64 u] 29 (0, 0))
        replace hB := (hB.trans (hb.mono hB.size)).alloc (hB.trans (hb.mono hB.size)).size (.cells #[.int .i64 m, .int .i64 t, .int .i64 u] 29 (0, 0))
        clear hb
        have x := M3.mk' w5 m t u 29
        go_wp2_with (fail)
        refine (getSuper_any _ 64 64 L _ hby (by omega)).mono ?_
        rintro e w6 ⟨rfl, hb⟩
        rw [o1, v1]
        replace c := (c.next hb).alloc (.cells #[.int .i64 0, .int .i64 0, .int .i64 0] 25 (0, 0))
        replace hby := (hby.next hb).alloc (.cells #[.int .i64 0, .int .i64 0, .int .i64 0] 25 (0, 0))
        replace x := (x.next hb).alloc (.cells #[.int .i64 0, .int .i64 0, .int .i64 0] 25 (0, 0))
        replace hB := (hB.trans (hb.mono hB.size)).alloc (hB.trans (hb.mono hB.size)).size (.cells #[.int .i64 0, .int .i64 0, .int .i64 0] 25 (0, 0))
        clear hb
        go_wp2_with (fail)
        refine (getMark_any _ 64 64 L _ hby (by omega)).mono ?_
        rintro e w7 ⟨rfl, hb⟩
        rw [o2, v2]
        replace c := (c.next hb).alloc (.cells #[.int .i64 0] 27 (0, 0))
        replace hby := (hby.next hb).alloc (.cells #[.int .i64 0] 27 (0, 0))
        replace x := (x.next hb).alloc (.cells #[.int .i64 0] 27 (0, 0))
        replace hB := (hB.trans (hb.mono hB.size)).alloc (hB.trans (hb.mono hB.size)).size (.cells #[.int .i64 0] 27 (0, 0))
        clear hb
        clear hby o0 v0 o1 v1 o2 v2
        have c0 := c.c0
        have c1 := c.c1
        have c2 := c.c2
        have cl := c.lt
        have x0 := x.c0
        have x1 := x.c1
        have x2 := x.c2
        have xl := x.lt
        clear x
        go_wp2_with (fail)
        go_ret
        exact ⟨ret_bool (by simp), hB⟩
    · rw [hr] at hp
      obtain ⟨g, rfl, _, hbk, hsm, hl, hb⟩ := hp.yes
      have K := mark_ok hr
      have ks := K.small
      have o0 := K.o
      have v0 := K.v
      have o1 := K.ns
      have v1 : gsV (markL k) = sv 0 0 0 := by rw [gsV, o1]; rfl
      have o2 := K.nb
      have v2 : gbV (markL k) = bv 0 0 0 := by rw [gbV, o2]; rfl
      have hby := hbk.bysn hsm hl
      obtain ⟨L, hL⟩ : ∃ L, L = markL k := ⟨_, rfl⟩
      rw [← hL] at hby o0 v0 o1 v1 o2 v2
      clear hL K hsm hl hbk hp hr ks
      replace b := b.next hb
      replace c := c.next hb
      replace hB := hB.trans (hb.mono hB.size)
      clear hb
      go_wp2_with (fail)
      refine (getMark_any _ 64 64 L _ hby (by omega)).mono ?_
      rintro e w8 ⟨rfl, hb⟩
      rw [o0, v0]
      replace b := (b.next hb).alloc (.cells #[.int .i64 k] 27 (0, 0))
      replace c := (c.next hb).alloc (.cells #[.int .i64 k] 27 (0, 0))
      replace hby := (hby.next hb).alloc (.cells #[.int .i64 k] 27 (0, 0))
      replace hB := (hB.trans (hb.mono hB.size)).alloc (hB.trans (hb.mono hB.size)).size (.cells #[.int .i64 k] 27 (0, 0))
      clear hb
      have x := M1.mk' w8 k 27
      go_wp2_with (fail)
      refine (getSuper_any _ 64 64 L _ hby (by omega)).mono ?_
      rintro e w9 ⟨rfl, hb⟩
      rw [o1, v1]
      replace b := (b.next hb).alloc (.cells #[.int .i64 0, .int .i64 0, .int .i64 0] 25 (0, 0))
      replace c := (c.next hb).alloc (.cells #[.int .i64 0, .int .i64 0, .int .i64 0] 25 (0, 0))
      replace hby := (hby.next hb).alloc (.cells #[.int .i64 0, .int .i64 0, .int .i64 0] 25 (0, 0))
      replace x := (x.next hb).alloc (.cells #[.int .i64 0, .int .i64 0, .int .i64 0] 25 (0, 0))
      replace hB := (hB.trans (hb.mono hB.size)).alloc (hB.trans (hb.mono hB.size)).size (.cells #[.int .i64 0, .int .i64 0, .int .i64 0] 25 (0, 0))
      clear hb
      go_wp2_with (fail)
      refine (getMember_any _ 64 64 L _ hby (by omega)).mono ?_
      rintro e w10 ⟨rfl, hb⟩
      rw [o2, v2]
      replace b := (b.next hb).alloc (.cells #[.int .i64 0, .int .i64 0, .int .i64 0] 29 (0, 0))
      replace c := (c.next hb).alloc (.cells #[.int .i64 0, .int .i64 0, .int .i64 0] 29 (0, 0))
      replace hby := (hby.next hb).alloc (.cells #[.int .i64 0, .int .i64 0, .int .i64 0] 29 (0, 0))
      replace x := (x.next hb).alloc (.cells #[.int .i64 0, .int .i64 0, .int .i64 0] 29 (0, 0))
      replace hB := (hB.trans (hb.mono hB.size)).alloc (hB.trans (hb.mono hB.size)).size (.cells #[.int .i64 0, .int .i64 0, .int .i64 0] 29 (0, 0))
      clear hb
      clear hby o0 v0 o1 v1 o2 v2
      have b0 := b.c0
      have bl := b.lt
      have x0 := x.c0
      have xl := x.lt
      clear x
      clear b
      have c0 := c.c0
      have c1 := c.c1
      have c2 := c.c2
      have cl := c.lt
      go_wp2_with (fail)
      clear b0 bl x0 xl c0 c1 c2 cl
      refine (putMember_any m t u _).mono ?_
      intro e w11 hp
      cases hr : memO m t u
      · rw [hr] at hp
        obtain ⟨rfl, _, hb⟩ := hp.not
        clear hp hr
        clear c
        replace hB := hB.trans (hb.mono hB.size)
        clear hb
        go_wp2_with (fail)
        go_ret
        exact ⟨rfl, hB⟩
      · rw [hr] at hp
        obtain ⟨g, rfl, _, hbk, hsm, hl, hb⟩ := hp.yes
        have K := mem_ok hr
        have ks := K.small
        have o0 := K.o
        have v0 := K.v
        have o1 := K.ns
        have v1 : gsV (memL m t u) = sv 0 0 0 := by rw [gsV, o1]; rfl
        have o2 := K.nm
        have v2 : gmV (memL m t u) = 0 := by rw [gmV, o2]; rfl
        have hby := hbk.bysn hsm hl
        obtain ⟨L, hL⟩ : ∃ L, L = memL m t u := ⟨_, rfl⟩
        rw [← hL] at hby o0 v0 o1 v1 o2 v2
        clear hL K hsm hl hbk hp hr ks
        replace c := c.next hb
        replace hB := hB.trans (hb.mono hB.size)
        clear hb
        go_wp2_with (fail)
        refine (getMember_any _ 64 64 L _ hby (by omega)).mono ?_
        rintro e w12 ⟨rfl, hb⟩
        rw [o0, v0]
        replace c := (c.next hb).alloc (.cells #[.int .i64 m, .int .i64 t, .int .i64 u] 29 (0, 0))
        replace hby := (hby.next hb).alloc (.cells #[.int .i64 m, .int .i64 t, .int .i64 u] 29 (0, 0))
        replace hB := (hB.trans (hb.mono hB.size)).alloc (hB.trans (hb.mono hB.size)).size (.cells #[.int .i64 m, .int .i64 t, .int .i64 u] 29 (0, 0))
        clear hb
        have x := M3.mk' w12 m t u 29
        go_wp2_with (fail)
        refine (getSuper_any _ 64 64 L _ hby (by omega)).mono ?_
        rintro e w13 ⟨rfl, hb⟩
        rw [o1, v1]
        replace c := (c.next hb).alloc (.cells #[.int .i64 0, .int .i64 0, .int .i64 0] 25 (0, 0))
        replace hby := (hby.next hb).alloc (.cells #[.int .i64 0, .int .i64 0, .int .i64 0] 25 (0, 0))
        replace x := (x.next hb).alloc (.cells #[.int .i64 0, .int .i64 0, .int .i64 0] 25 (0, 0))
        replace hB := (hB.trans (hb.mono hB.size)).alloc (hB.trans (hb.mono hB.size)).size (.cells #[.int .i64 0, .int .i64 0, .int .i64 0] 25 (0, 0))
        clear hb
        go_wp2_with (fail)
        refine (getMark_any _ 64 64 L _ hby (by omega)).mono ?_
        rintro e w14 ⟨rfl, hb⟩
        rw [o2, v2]
        replace c := (c.next hb).alloc (.cells #[.int .i64 0] 27 (0, 0))
        replace hby := (hby.next hb).alloc (.cells #[.int .i64 0] 27 (0, 0))
        replace x := (x.next hb).alloc (.cells #[.int .i64 0] 27 (0, 0))
        replace hB := (hB.trans (hb.mono hB.size)).alloc (hB.trans (hb.mono hB.size)).size (.cells #[.int .i64 0] 27 (0, 0))
        clear hb
        clear hby o0 v0 o1 v1 o2 v2
        have c0 := c.c0
        have c1 := c.c1
        have c2 := c.c2
        have cl := c.lt
        have x0 := x.c0
        have x1 := x.c1
        have x2 := x.c2
        have xl := x.lt
        clear x
        go_wp2_with (fail)
        go_ret
        exact ⟨ret_bool (by simp), hB⟩
  · rw [hr] at hp
    obtain ⟨g, rfl, _, hbk, hsm, hl, hb⟩ := hp.yes
    have K := super_ok hr
    have ks := K.small
    have o0 := K.o
    have v0 := K.v
    have o1 := K.nm
    have v1 : gmV (superL d r s) = 0 := by rw [gmV, o1]; rfl
    have o2 := K.nb
    have v2 : gbV (superL d r s) = bv 0 0 0 := by rw [gbV, o2]; rfl
    have hby := hbk.bysn hsm hl
    obtain ⟨L, hL⟩ : ∃ L, L = superL d r s := ⟨_, rfl⟩
    rw [← hL] at hby o0 v0 o1 v1 o2 v2
    clear hL K hsm hl hbk hp hr ks
    replace a := a.next hb
    replace b := b.next hb
    replace c := c.next hb
    replace hB := hB.trans (hb.mono hB.size)
    clear hb
    go_wp2_with (fail)
    refine (getSuper_any _ 64 64 L _ hby (by omega)).mono ?_
    rintro e w15 ⟨rfl, hb⟩
    rw [o0, v0]
    replace a := (a.next hb).alloc (.cells #[.int .i64 d, .int .i64 r, .int .i64 s] 25 (0, 0))
    replace b := (b.next hb).alloc (.cells #[.int .i64 d, .int .i64 r, .int .i64 s] 25 (0, 0))
    replace c := (c.next hb).alloc (.cells #[.int .i64 d, .int .i64 r, .int .i64 s] 25 (0, 0))
    replace hby := (hby.next hb).alloc (.cells #[.int .i64 d, .int .i64 r, .int .i64 s] 25 (0, 0))
    replace hB := (hB.trans (hb.mono hB.size)).alloc (hB.trans (hb.mono hB.size)).size (.cells #[.int .i64 d, .int .i64 r, .int .i64 s] 25 (0, 0))
    clear hb
    have x := M3.mk' w15 d r s 25
    go_wp2_with (fail)
    refine (getMark_any _ 64 64 L _ hby (by omega)).mono ?_
    rintro e w16 ⟨rfl, hb⟩
    rw [o1, v1]
    replace a := (a.next hb).alloc (.cells #[.int .i64 0] 27 (0, 0))
    replace b := (b.next hb).alloc (.cells #[.int .i64 0] 27 (0, 0))
    replace c := (c.next hb).alloc (.cells #[.int .i64 0] 27 (0, 0))
    replace hby := (hby.next hb).alloc (.cells #[.int .i64 0] 27 (0, 0))
    replace x := (x.next hb).alloc (.cells #[.int .i64 0] 27 (0, 0))
    replace hB := (hB.trans (hb.mono hB.size)).alloc (hB.trans (hb.mono hB.size)).size (.cells #[.int .i64 0] 27 (0, 0))
    clear hb
    go_wp2_with (fail)
    refine (getMember_any _ 64 64 L _ hby (by omega)).mono ?_
    rintro e w17 ⟨rfl, hb⟩
    rw [o2, v2]
    replace a := (a.next hb).alloc (.cells #[.int .i64 0, .int .i64 0, .int .i64 0] 29 (0, 0))
    replace b := (b.next hb).alloc (.cells #[.int .i64 0, .int .i64 0, .int .i64 0] 29 (0, 0))
    replace c := (c.next hb).alloc (.cells #[.int .i64 0, .int .i64 0, .int .i64 0] 29 (0, 0))
    replace hby := (hby.next hb).alloc (.cells #[.int .i64 0, .int .i64 0, .int .i64 0] 29 (0, 0))
    replace x := (x.next hb).alloc (.cells #[.int .i64 0, .int .i64 0, .int .i64 0] 29 (0, 0))
    replace hB := (hB.trans (hb.mono hB.size)).alloc (hB.trans (hb.mono hB.size)).size (.cells #[.int .i64 0, .int .i64 0, .int .i64 0] 29 (0, 0))
    clear hb
    clear hby o0 v0 o1 v1 o2 v2
    have a0 := a.c0
    have a1 := a.c1
    have a2 := a.c2
    have al := a.lt
    have x0 := x.c0
    have x1 := x.c1
    have x2 := x.c2
    have xl := x.lt
    clear x
    clear a
    have b0 := b.c0
    have bl := b.lt
    go_wp2_with (fail)
    clear a0 a1 a2 al x0 x1 x2 xl b0 bl
    refine (putMark_any k _).mono ?_
    intro e w18 hp
    rw [markO_iff] at hp
    cases hr : hasW k 4
    · rw [hr] at hp
      obtain ⟨rfl, _, hb⟩ := hp.not
      clear hp hr
      clear b
      replace c := c.next hb
      replace hB := hB.trans (hb.mono hB.size)
      clear hb
      have y0 := c.c0
      have y1 := c.c1
      have y2 := c.c2
      go_wp2_with (fail)
      refine (putMember_any m t u _).mono ?_
      intro e w19 hp
      clear y0 y1 y2
      cases hr : memO m t u
      · rw [hr] at hp
        obtain ⟨rfl, _, hb⟩ := hp.not
        clear hp hr
        clear c
        replace hB := hB.trans (hb.mono hB.size)
        clear hb
        go_wp2_with (fail)
        go_ret
        exact ⟨rfl, hB⟩
      · rw [hr] at hp
        obtain ⟨g, rfl, _, hbk, hsm, hl, hb⟩ := hp.yes
        have K := mem_ok hr
        have ks := K.small
        have o0 := K.o
        have v0 := K.v
        have o1 := K.ns
        have v1 : gsV (memL m t u) = sv 0 0 0 := by rw [gsV, o1]; rfl
        have o2 := K.nm
        have v2 : gmV (memL m t u) = 0 := by rw [gmV, o2]; rfl
        have hby := hbk.bysn hsm hl
        obtain ⟨L, hL⟩ : ∃ L, L = memL m t u := ⟨_, rfl⟩
        rw [← hL] at hby o0 v0 o1 v1 o2 v2
        clear hL K hsm hl hbk hp hr ks
        replace c := c.next hb
        replace hB := hB.trans (hb.mono hB.size)
        clear hb
        go_wp2_with (fail)
        refine (getMember_any _ 64 64 L _ hby (by omega)).mono ?_
        rintro e w20 ⟨rfl, hb⟩
        rw [o0, v0]
        replace c := (c.next hb).alloc (.cells #[.int .i64 m, .int .i64 t, .int .i64 u] 29 (0, 0))
        replace hby := (hby.next hb).alloc (.cells #[.int .i64 m, .int .i64 t, .int .i64 u] 29 (0, 0))
        replace hB := (hB.trans (hb.mono hB.size)).alloc (hB.trans (hb.mono hB.size)).size (.cells #[.int .i64 m, .int .i64 t, .int .i64 u] 29 (0, 0))
        clear hb
        have x := M3.mk' w20 m t u 29
        go_wp2_with (fail)
        refine (getSuper_any _ 64 64 L _ hby (by omega)).mono ?_
        rintro e w21 ⟨rfl, hb⟩
        rw [o1, v1]
        replace c := (c.next hb).alloc (.cells #[.int .i64 0, .int .i64 0, .int .i64 0] 25 (0, 0))
        replace hby := (hby.next hb).alloc (.cells #[.int .i64 0, .int .i64 0, .int .i64 0] 25 (0, 0))
        replace x := (x.next hb).alloc (.cells #[.int .i64 0, .int .i64 0, .int .i64 0] 25 (0, 0))
        replace hB := (hB.trans (hb.mono hB.size)).alloc (hB.trans (hb.mono hB.size)).size (.cells #[.int .i64 0, .int .i64 0, .int .i64 0] 25 (0, 0))
        clear hb
        go_wp2_with (fail)
        refine (getMark_any _ 64 64 L _ hby (by omega)).mono ?_
        rintro e w22 ⟨rfl, hb⟩
        rw [o2, v2]
        replace c := (c.next hb).alloc (.cells #[.int .i64 0] 27 (0, 0))
        replace hby := (hby.next hb).alloc (.cells #[.int .i64 0] 27 (0, 0))
        replace x := (x.next hb).alloc (.cells #[.int .i64 0] 27 (0, 0))
        replace hB := (hB.trans (hb.mono hB.size)).alloc (hB.trans (hb.mono hB.size)).size (.cells #[.int .i64 0] 27 (0, 0))
        clear hb
        clear hby o0 v0 o1 v1 o2 v2
        have c0 := c.c0
        have c1 := c.c1
        have c2 := c.c2
        have cl := c.lt
        have x0 := x.c0
        have x1 := x.c1
        have x2 := x.c2
        have xl := x.lt
        clear x
        go_wp2_with (fail)
        go_ret
        exact ⟨ret_bool (by simp), hB⟩
    · rw [hr] at hp
      obtain ⟨g, rfl, _, hbk, hsm, hl, hb⟩ := hp.yes
      have K := mark_ok hr
      have ks := K.small
      have o0 := K.o
      have v0 := K.v
      have o1 := K.ns
      have v1 : gsV (markL k) = sv 0 0 0 := by rw [gsV, o1]; rfl
      have o2 := K.nb
      have v2 : gbV (markL k) = bv 0 0 0 := by rw [gbV, o2]; rfl
      have hby := hbk.bysn hsm hl
      obtain ⟨L, hL⟩ : ∃ L, L = markL k := ⟨_, rfl⟩
      rw [← hL] at hby o0 v0 o1 v1 o2 v2
      clear hL K hsm hl hbk hp hr ks
      replace b := b.next hb
      replace c := c.next hb
      replace hB := hB.trans (hb.mono hB.size)
      clear hb
      go_wp2_with (fail)
      refine (getMark_any _ 64 64 L _ hby (by omega)).mono ?_
      rintro e w23 ⟨rfl, hb⟩
      rw [o0, v0]
      replace b := (b.next hb).alloc (.cells #[.int .i64 k] 27 (0, 0))
      replace c := (c.next hb).alloc (.cells #[.int .i64 k] 27 (0, 0))
      replace hby := (hby.next hb).alloc (.cells #[.int .i64 k] 27 (0, 0))
      replace hB := (hB.trans (hb.mono hB.size)).alloc (hB.trans (hb.mono hB.size)).size (.cells #[.int .i64 k] 27 (0, 0))
      clear hb
      have x := M1.mk' w23 k 27
      go_wp2_with (fail)
      refine (getSuper_any _ 64 64 L _ hby (by omega)).mono ?_
      rintro e w24 ⟨rfl, hb⟩
      rw [o1, v1]
      replace b := (b.next hb).alloc (.cells #[.int .i64 0, .int .i64 0, .int .i64 0] 25 (0, 0))
      replace c := (c.next hb).alloc (.cells #[.int .i64 0, .int .i64 0, .int .i64 0] 25 (0, 0))
      replace hby := (hby.next hb).alloc (.cells #[.int .i64 0, .int .i64 0, .int .i64 0] 25 (0, 0))
      replace x := (x.next hb).alloc (.cells #[.int .i64 0, .int .i64 0, .int .i64 0] 25 (0, 0))
      replace hB := (hB.trans (hb.mono hB.size)).alloc (hB.trans (hb.mono hB.size)).size (.cells #[.int .i64 0, .int .i64 0, .int .i64 0] 25 (0, 0))
      clear hb
      go_wp2_with (fail)
      refine (getMember_any _ 64 64 L _ hby (by omega)).mono ?_
      rintro e w25 ⟨rfl, hb⟩
      rw [o2, v2]
      replace b := (b.next hb).alloc (.cells #[.int .i64 0, .int .i64 0, .int .i64 0] 29 (0, 0))
      replace c := (c.next hb).alloc (.cells #[.int .i64 0, .int .i64 0, .int .i64 0] 29 (0, 0))
      replace hby := (hby.next hb).alloc (.cells #[.int .i64 0, .int .i64 0, .int .i64 0] 29 (0, 0))
      replace x := (x.next hb).alloc (.cells #[.int .i64 0, .int .i64 0, .int .i64 0] 29 (0, 0))
      replace hB := (hB.trans (hb.mono hB.size)).alloc (hB.trans (hb.mono hB.size)).size (.cells #[.int .i64 0, .int .i64 0, .int .i64 0] 29 (0, 0))
      clear hb
      clear hby o0 v0 o1 v1 o2 v2
      have b0 := b.c0
      have bl := b.lt
      have x0 := x.c0
      have xl := x.lt
      clear x
      clear b
      have c0 := c.c0
      have c1 := c.c1
      have c2 := c.c2
      have cl := c.lt
      go_wp2_with (fail)
      clear b0 bl x0 xl c0 c1 c2 cl
      refine (putMember_any m t u _).mono ?_
      intro e w26 hp
      cases hr : memO m t u
      · rw [hr] at hp
        obtain ⟨rfl, _, hb⟩ := hp.not
        clear hp hr
        clear c
        replace hB := hB.trans (hb.mono hB.size)
        clear hb
        go_wp2_with (fail)
        go_ret
        exact ⟨rfl, hB⟩
      · rw [hr] at hp
        obtain ⟨g, rfl, _, hbk, hsm, hl, hb⟩ := hp.yes
        have K := mem_ok hr
        have ks := K.small
        have o0 := K.o
        have v0 := K.v
        have o1 := K.ns
        have v1 : gsV (memL m t u) = sv 0 0 0 := by rw [gsV, o1]; rfl
        have o2 := K.nm
        have v2 : gmV (memL m t u) = 0 := by rw [gmV, o2]; rfl
        have hby := hbk.bysn hsm hl
        obtain ⟨L, hL⟩ : ∃ L, L = memL m t u := ⟨_, rfl⟩
        rw [← hL] at hby o0 v0 o1 v1 o2 v2
        clear hL K hsm hl hbk hp hr ks
        replace c := c.next hb
        replace hB := hB.trans (hb.mono hB.size)
        clear hb
        go_wp2_with (fail)
        refine (getMember_any _ 64 64 L _ hby (by omega)).mono ?_
        rintro e w27 ⟨rfl, hb⟩
        rw [o0, v0]
        replace c := (c.next hb).alloc (.cells #[.int .i64 m, .int .i64 t, .int .i64 u] 29 (0, 0))
        replace hby := (hby.next hb).alloc (.cells #[.int .i64 m, .int .i64 t, .int .i64 u] 29 (0, 0))
        replace hB := (hB.trans (hb.mono hB.size)).alloc (hB.trans (hb.mono hB.size)).size (.cells #[.int .i64 m, .int .i64 t, .int .i64 u] 29 (0, 0))
        clear hb
        have x := M3.mk' w27 m t u 29
        go_wp2_with (fail)
        refine (getSuper_any _ 64 64 L _ hby (by omega)).mono ?_
        rintro e w28 ⟨rfl, hb⟩
        rw [o1, v1]
        replace c := (c.next hb).alloc (.cells #[.int .i64 0, .int .i64 0, .int .i64 0] 25 (0, 0))
        replace hby := (hby.next hb).alloc (.cells #[.int .i64 0, .int .i64 0, .int .i64 0] 25 (0, 0))
        replace x := (x.next hb).alloc (.cells #[.int .i64 0, .int .i64 0, .int .i64 0] 25 (0, 0))
        replace hB := (hB.trans (hb.mono hB.size)).alloc (hB.trans (hb.mono hB.size)).size (.cells #[.int .i64 0, .int .i64 0, .int .i64 0] 25 (0, 0))
        clear hb
        go_wp2_with (fail)
        refine (getMark_any _ 64 64 L _ hby (by omega)).mono ?_
        rintro e w29 ⟨rfl, hb⟩
        rw [o2, v2]
        replace c := (c.next hb).alloc (.cells #[.int .i64 0] 27 (0, 0))
        replace hby := (hby.next hb).alloc (.cells #[.int .i64 0] 27 (0, 0))
        replace x := (x.next hb).alloc (.cells #[.int .i64 0] 27 (0, 0))
        replace hB := (hB.trans (hb.mono hB.size)).alloc (hB.trans (hb.mono hB.size)).size (.cells #[.int .i64 0] 27 (0, 0))
        clear hb
        clear hby o0 v0 o1 v1 o2 v2
        have c0 := c.c0
        have c1 := c.c1
        have c2 := c.c2
        have cl := c.lt
        have x0 := x.c0
        have x1 := x.c1
        have x2 := x.c2
        have xl := x.lt
        clear x
        go_wp2_with (fail)
        go_ret
        exact ⟨ret_bool (by simp), hB⟩

end Go.Proofs.Ytgdkcdgomopnfaa
