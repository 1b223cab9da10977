/-
  SuperTurned, walked.
-/
import Derived.Test.YtgdkcdgomopnfaaAl5
namespace Go.Proofs.Ytgdkcdgomopnfaa
open Go.RowKit

theorem wf_u8 {n : Int} (h : (Lit.int .u8 n).wf = true) : 0 ≤ n ∧ n ≤ 255 := by
  simp [Lit.wf, IntKind.min, IntKind.max, IntKind.signed, IntKind.bits] at h
  omega
def xr (a b : Int) : Int := ((a.toNat ^^^ b.toNat : Nat) : Int)
theorem xr_bd {a b : Int} (ha : 0 ≤ a ∧ a ≤ 255) (hb : 0 ≤ b ∧ b ≤ 255) : 0 ≤ xr a b ∧ xr a b ≤ 255 := by
  have : a.toNat ^^^ b.toNat < 2 ^ 8 := Nat.xor_lt_two_pow (by omega) (by omega)
  unfold xr
  omega
theorem u8_xr {a b : Int} (ha : 0 ≤ a ∧ a ≤ 255) (hb : 0 ≤ b ∧ b ≤ 255) : bits .xor .u8 a b = xr a b := u8_xor a b ha.1 (by omega) hb.1 (by omega)
theorem xr_ne {a b : Int} (ha : 0 ≤ a) (hb : 0 ≤ b) (h : b ≠ 0) : xr a b ≠ a := fun e => by
  unfold xr at e
  have h1 : a.toNat ^^^ b.toNat = a.toNat := by omega
  have h2 : a.toNat ^^^ (a.toNat ^^^ b.toNat) = b.toNat := by rw [← Nat.xor_assoc, Nat.xor_self, Nat.zero_xor]
  rw [h1, Nat.xor_self] at h2
  omega
/-- The list with one byte turned. -/
def trn (L : List Int) (p : Nat) (t : Int) : List Int := L.set p (xr (byt L p) t)
theorem trn_len (L : List Int) (p : Nat) (t : Int) : (trn L p t).length = L.length := by simp [trn]
theorem trn_small {L : List Int} (h : AllB L) (p : Nat) {t : Int} (ht : 0 ≤ t ∧ t ≤ 255) : AllB (trn L p t) := fun z hz => by
  rcases List.mem_or_eq_of_mem_set hz with h1 | rfl
  · exact h z h1
  · exact xr_bd (byt_bd h p) ht
theorem trn_ne {L : List Int} (h : AllB L) {p : Nat} (hp : p < L.length) {t : Int} (ht : 0 ≤ t) (h0 : t ≠ 0) : trn L p t ≠ L := fun e => by
  have h1 := congrArg (fun l => byt l p) e
  simp only [trn, byt_set hp] at h1
  exact xr_ne (byt_bd h p).1 ht h0 h1
theorem mark_turned {y : List Int} {k : Int} (h : y ≠ markL k) : gmO y = true → gmV y ≠ k := fun ho e => by
  rw [gmV, ho, if_pos rfl] at e
  rw [gmO, Bool.and_eq_true] at ho
  have := of_decide_eq_true ho.2
  rw [e] at this
  exact h this.symm
theorem mem_turned {y : List Int} {m t u : Int} (h : y ≠ memL m t u) : gbO y = true → ¬ (gb1 y = m ∧ gb2 y = t ∧ gb3 y = u) := fun ho ⟨e1, e2, e3⟩ => by
  rw [gbO, Bool.and_eq_true] at ho
  have := of_decide_eq_true ho.2
  rw [e1, e2, e3] at this
  exact h this.symm

theorem M1.setO {w : World} {b : Nat} {s : Int} {g i : Nat} {v : Value} (h : M1 w b s) (hne : g ≠ b) : M1 (w.setCell ⟨g, i, none⟩ v) b s :=
  ⟨by simpa using h.lt, (set_oth (by simp only [ne_eq, Addr.mk.injEq, hne, false_and, not_false_eq_true])).trans h.c0, by simpa using h.f0⟩
theorem M3.setO {w : World} {b : Nat} {d r s : Int} {g i : Nat} {v : Value} (h : M3 w b d r s) (hne : g ≠ b) : M3 (w.setCell ⟨g, i, none⟩ v) b d r s :=
  ⟨⟨by simpa using h.lt, (set_oth (by simp only [ne_eq, Addr.mk.injEq, hne, false_and, not_false_eq_true])).trans h.c0, (set_oth (by simp only [ne_eq, Addr.mk.injEq, hne, false_and, not_false_eq_true])).trans h.c1, (set_oth (by simp only [ne_eq, Addr.mk.injEq, hne, false_and, not_false_eq_true])).trans h.c2⟩, by simpa using h.f0, by simpa using h.f1, by simpa using h.f2⟩

set_option maxHeartbeats 4000000 in
theorem turn_law (k m t u : Int) (q v : Int) (w : World) (hv : 0 ≤ v ∧ v ≤ 255) :
    Calls Try.prog 7 #[mv k, bv m t u, .int .i64 q, .int .u8 v] w fun e w' => e = .returned (.bool true) ∧ Below w.heap.size w w' := by
  obtain ⟨w0, hw0⟩ : ∃ w0, w0 = (w.alloc (.cells #[.int .i64 k] 27 (0, 0))).alloc (.cells #[.int .i64 m, .int .i64 t, .int .i64 u] 29 (0, 0)) := ⟨_, rfl⟩
  have b : M1 w0 w.heap.size k := by rw [hw0]; exact (M1.mk' w k _).alloc _
  have c : M3 w0 (w.heap.size + 1) m t u := by rw [hw0]; have := M3.mk' (w.alloc (.cells #[.int .i64 k] 27 (0, 0))) m t u 29; simpa using this
  have hB : Below w.heap.size w w0 := by rw [hw0]; exact (bel_a1 w _).alloc (by simp) _
  by_cases q0 : q < 0
  · go_enter Try.func7, Try.ntmps7
    go_wp2_with (fail)
    rw [← hw0]
    clear hw0 b c
    refine (alive_any w0).mono ?_
    rintro e w1 ⟨rfl, hb⟩
    replace hB := hB.trans (hb.mono hB.size)
    clear hb
    go_wp2_with (fail)
    go_ret
    exact ⟨rfl, hB⟩
  by_cases q1 : 64 ≤ q
  · go_enter Try.func7, Try.ntmps7
    go_wp2_with (fail)
    rw [← hw0]
    clear hw0 b c
    refine (alive_any w0).mono ?_
    rintro e w1 ⟨rfl, hb⟩
    replace hB := hB.trans (hb.mono hB.size)
    clear hb
    go_wp2_with (fail)
    go_ret
    exact ⟨rfl, hB⟩
  obtain ⟨p, rfl⟩ := Int.eq_ofNat_of_zero_le (show 0 ≤ q by omega)
  have hp64 : p < 64 := by omega
  by_cases v0 : v = 0
  · subst v0
    go_enter Try.func7, Try.ntmps7
    go_wp2_with (fail)
    rw [← hw0]
    clear hw0 b c
    refine (alive_any w0).mono ?_
    rintro e w1 ⟨rfl, hb⟩
    replace hB := hB.trans (hb.mono hB.size)
    clear hb
    go_wp2_with (fail)
    go_ret
    exact ⟨rfl, hB⟩
  have hpi : (p : Int) < 64 := by omega
  have hv0 : (v == 0) = false := by simpa using v0
  go_enter Try.func7, Try.ntmps7
  go_wp2_with (fail)
  rw [← hw0]
  clear hw0
  refine (alive_any w0).mono ?_
  rintro e w1 ⟨rfl, hb⟩
  replace b := b.next hb
  replace c := c.next hb
  replace hB := hB.trans (hb.mono hB.size)
  clear hb
  have y0 := b.c0
  go_wp2_with (fail)
  refine (putMark_any k w1).mono ?_
  intro e w2 hp
  rw [markO_iff] at hp
  clear y0
  cases hr : hasW k 4
  · rw [hr] at hp
    obtain ⟨rfl, _, hb⟩ := hp.not
    replace c := c.next hb
    replace hB := hB.trans (hb.mono hB.size)
    clear hb hp hr b
    have y0 := c.c0
    have y1 := c.c1
    have y2 := c.c2
    go_wp2_with (fail)
    clear y0 y1 y2
    refine (putMember_any m t u _).mono ?_
    intro e w5 hp
    cases hr : memO m t u
    · rw [hr] at hp
      obtain ⟨rfl, _, hb⟩ := hp.not
      replace hB := hB.trans (hb.mono hB.size)
      clear hb hp hr c
      go_wp2_with (fail)
      go_ret
      exact ⟨rfl, hB⟩
    · rw [hr] at hp
      obtain ⟨g, rfl, hg, hbk, hsm, hl, hb⟩ := hp.yes
      have hlt := c.lt
      have hne := trn_ne hsm (p := p) (by omega) hv.1 v0
      have hts := trn_small hsm p hv
      have htl := trn_len (memL m t u) p v
      rw [hl] at htl
      replace c := c.next hb
      replace hB := hB.trans (hb.mono hB.size)
      have z0 := hbk.cell (i := p) (by omega)
      have z1 := hbk.free p
      have hbt := hbk.set p (xr (byt (memL m t u) p) v)
      have hxr := u8_xr (byt_bd hsm p) hv
      rw [show (memL m t u).set p (xr (byt (memL m t u) p) v) = trn (memL m t u) p v from rfl] at hbt
      have hcs := c.setO (g := g) (i := p) (v := .int .u8 (xr (byt (memL m t u) p) v)) (by omega)
      have hBs := hB.setCell (p := ⟨g, p, none⟩) (by show w.heap.size ≤ g; omega) (.int .u8 (xr (byt (memL m t u) p) v))
      obtain ⟨y, hy⟩ : ∃ y, y = trn (memL m t u) p v := ⟨_, rfl⟩
      rw [← hy] at hne hts htl hbt
      go_wp2_with (fail)
      clear z0 z1 hbk hsm hl hb hp hr c hB hxr hy
      refine (getMember_any _ 64 64 y _ (hbt.bysn hts htl) (by omega)).mono ?_
      rintro e w6 ⟨rfl, hb⟩
      replace hcs := hcs.next hb
      replace hBs := hBs.trans (hb.mono hBs.size)
      have x0 := hcs.c0
      have x1 := hcs.c1
      have x2 := hcs.c2
      have xl := hcs.lt
      clear hb hbt hts htl
      cases ho : gbO y
      · rw [show gbV y = bv 0 0 0 by rw [gbV, ho]; rfl]
        clear ho hne hcs
        go_wp2_with (fail)
        go_ret
        exact ⟨rfl, hBs.alloc hBs.size _⟩
      · have hn := mem_turned hne ho
        rw [show gbV y = bv (gb1 y) (gb2 y) (gb3 y) by rw [gbV, ho]; rfl]
        obtain ⟨d, hd⟩ : ∃ z, z = gb1 y := ⟨_, rfl⟩
        obtain ⟨r, hr⟩ : ∃ z, z = gb2 y := ⟨_, rfl⟩
        obtain ⟨s, hs⟩ : ∃ z, z = gb3 y := ⟨_, rfl⟩
        rw [← hd, ← hr, ← hs] at hn ⊢
        have HN := Lib.hid hn
        clear ho hne hcs hd hr hs hn
        go_wp2_with (fail)
        all_goals go_ret
        all_goals refine ⟨ret_bool ?_, hBs.alloc hBs.size _⟩
        all_goals first | rfl | (have hn2 := HN.out; simp_all; done) | (have hn2 := HN.out; simp; omega)
  · rw [hr] at hp
    obtain ⟨g, rfl, hg, hbk, hsm, hl, hb⟩ := hp.yes
    have hlt := c.lt
    have hne := trn_ne hsm (p := p) (by omega) hv.1 v0
    have hts := trn_small hsm p hv
    have htl := trn_len (markL k) p v
    rw [hl] at htl
    replace b := b.next hb
    replace c := c.next hb
    replace hB := hB.trans (hb.mono hB.size)
    have z0 := hbk.cell (i := p) (by omega)
    have z1 := hbk.free p
    have hbt := hbk.set p (xr (byt (markL k) p) v)
    have hxr := u8_xr (byt_bd hsm p) hv
    rw [show (markL k).set p (xr (byt (markL k) p) v) = trn (markL k) p v from rfl] at hbt
    replace b := b.setO (g := g) (i := p) (v := .int .u8 (xr (byt (markL k) p) v)) (by omega)
    replace c := c.setO (g := g) (i := p) (v := .int .u8 (xr (byt (markL k) p) v)) (by omega)
    replace hB := hB.setCell (p := ⟨g, p, none⟩) (by show w.heap.size ≤ g; omega) (.int .u8 (xr (byt (markL k) p) v))
    obtain ⟨y, hy⟩ : ∃ y, y = trn (markL k) p v := ⟨_, rfl⟩
    rw [← hy] at hne hts htl hbt
    go_wp2_with (fail)
    clear z0 z1 hbk hsm hl hb hp hr hxr hy
    refine (getMark_any _ 64 64 y _ (hbt.bysn hts htl) (by omega)).mono ?_
    rintro e w3 ⟨rfl, hb⟩
    replace b := b.next hb
    replace c := c.next hb
    replace hB := hB.trans (hb.mono hB.size)
    clear hb hbt hts htl hlt hg
    have x0 := b.c0
    have xl := b.lt
    cases ho : gmO y
    · rw [show gmV y = 0 by rw [gmV, ho]; rfl]
      replace c := c.alloc (.cells #[.int .i64 0] 27 (0, 0))
      replace hB := hB.alloc hB.size (.cells #[.int .i64 0] 27 (0, 0))
      clear ho hne b
      have y0 := c.c0
      have y1 := c.c1
      have y2 := c.c2
      go_wp2_with (fail)
      clear y0 y1 y2 x0 xl
      refine (putMember_any m t u _).mono ?_
      intro e w5 hp
      cases hr : memO m t u
      · rw [hr] at hp
        obtain ⟨rfl, _, hb⟩ := hp.not
        replace hB := hB.trans (hb.mono hB.size)
        clear hb hp hr c
        go_wp2_with (fail)
        go_ret
        exact ⟨rfl, hB⟩
      · rw [hr] at hp
        obtain ⟨g, rfl, hg, hbk, hsm, hl, hb⟩ := hp.yes
        have hlt := c.lt
        have hne := trn_ne hsm (p := p) (by omega) hv.1 v0
        have hts := trn_small hsm p hv
        have htl := trn_len (memL m t u) p v
        rw [hl] at htl
        replace c := c.next hb
        replace hB := hB.trans (hb.mono hB.size)
        have z0 := hbk.cell (i := p) (by omega)
        have z1 := hbk.free p
        have hbt := hbk.set p (xr (byt (memL m t u) p) v)
        have hxr := u8_xr (byt_bd hsm p) hv
        rw [show (memL m t u).set p (xr (byt (memL m t u) p) v) = trn (memL m t u) p v from rfl] at hbt
        have hcs := c.setO (g := g) (i := p) (v := .int .u8 (xr (byt (memL m t u) p) v)) (by omega)
        have hBs := hB.setCell (p := ⟨g, p, none⟩) (by show w.heap.size ≤ g; omega) (.int .u8 (xr (byt (memL m t u) p) v))
        obtain ⟨y, hy⟩ : ∃ y, y = trn (memL m t u) p v := ⟨_, rfl⟩
        rw [← hy] at hne hts htl hbt
        go_wp2_with (fail)
        clear z0 z1 hbk hsm hl hb hp hr c hB hxr hy
        refine (getMember_any _ 64 64 y _ (hbt.bysn hts htl) (by omega)).mono ?_
        rintro e w6 ⟨rfl, hb⟩
        replace hcs := hcs.next hb
        replace hBs := hBs.trans (hb.mono hBs.size)
        have x0 := hcs.c0
        have x1 := hcs.c1
        have x2 := hcs.c2
        have xl := hcs.lt
        clear hb hbt hts htl
        cases ho : gbO y
        · rw [show gbV y = bv 0 0 0 by rw [gbV, ho]; rfl]
          clear ho hne hcs
          go_wp2_with (fail)
          go_ret
          exact ⟨rfl, hBs.alloc hBs.size _⟩
        · have hn := mem_turned hne ho
          rw [show gbV y = bv (gb1 y) (gb2 y) (gb3 y) by rw [gbV, ho]; rfl]
          obtain ⟨d, hd⟩ : ∃ z, z = gb1 y := ⟨_, rfl⟩
          obtain ⟨r, hr⟩ : ∃ z, z = gb2 y := ⟨_, rfl⟩
          obtain ⟨s, hs⟩ : ∃ z, z = gb3 y := ⟨_, rfl⟩
          rw [← hd, ← hr, ← hs] at hn ⊢
          have HN := Lib.hid hn
          clear ho hne hcs hd hr hs hn
          go_wp2_with (fail)
          all_goals go_ret
          all_goals refine ⟨ret_bool ?_, hBs.alloc hBs.size _⟩
          all_goals first | rfl | (have hn2 := HN.out; simp_all; done) | (have hn2 := HN.out; simp; omega)
    · have hn := mark_turned hne ho
      obtain ⟨j, hj⟩ : ∃ j, j = gmV y := ⟨_, rfl⟩
      rw [← hj] at hn ⊢
      have hn2 : (j == k) = false := by simpa using hn
      replace c := c.alloc (.cells #[.int .i64 j] 27 (0, 0))
      replace hB := hB.alloc hB.size (.cells #[.int .i64 j] 27 (0, 0))
      clear ho hne b hj
      have y0 := c.c0
      have y1 := c.c1
      have y2 := c.c2
      go_wp2_with (fail)
      clear y0 y1 y2 x0 xl
      refine (putMember_any m t u _).mono ?_
      intro e w5 hp
      cases hr : memO m t u
      · rw [hr] at hp
        obtain ⟨rfl, _, hb⟩ := hp.not
        replace hB := hB.trans (hb.mono hB.size)
        clear hb hp hr c
        go_wp2_with (fail)
        go_ret
        exact ⟨rfl, hB⟩
      · rw [hr] at hp
        obtain ⟨g, rfl, hg, hbk, hsm, hl, hb⟩ := hp.yes
        have hlt := c.lt
        have hne := trn_ne hsm (p := p) (by omega) hv.1 v0
        have hts := trn_small hsm p hv
        have htl := trn_len (memL m t u) p v
        rw [hl] at htl
        replace c := c.next hb
        replace hB := hB.trans (hb.mono hB.size)
        have z0 := hbk.cell (i := p) (by omega)
        have z1 := hbk.free p
        have hbt := hbk.set p (xr (byt (memL m t u) p) v)
        have hxr := u8_xr (byt_bd hsm p) hv
        rw [show (memL m t u).set p (xr (byt (memL m t u) p) v) = trn (memL m t u) p v from rfl] at hbt
        have hcs := c.setO (g := g) (i := p) (v := .int .u8 (xr (byt (memL m t u) p) v)) (by omega)
        have hBs := hB.setCell (p := ⟨g, p, none⟩) (by show w.heap.size ≤ g; omega) (.int .u8 (xr (byt (memL m t u) p) v))
        obtain ⟨y, hy⟩ : ∃ y, y = trn (memL m t u) p v := ⟨_, rfl⟩
        rw [← hy] at hne hts htl hbt
        go_wp2_with (fail)
        clear z0 z1 hbk hsm hl hb hp hr c hB hxr hy
        refine (getMember_any _ 64 64 y _ (hbt.bysn hts htl) (by omega)).mono ?_
        rintro e w6 ⟨rfl, hb⟩
        replace hcs := hcs.next hb
        replace hBs := hBs.trans (hb.mono hBs.size)
        have x0 := hcs.c0
        have x1 := hcs.c1
        have x2 := hcs.c2
        have xl := hcs.lt
        clear hb hbt hts htl
        cases ho : gbO y
        · rw [show gbV y = bv 0 0 0 by rw [gbV, ho]; rfl]
          clear ho hne hcs
          go_wp2_with (fail)
          go_ret
          exact ⟨rfl, hBs.alloc hBs.size _⟩
        · have hn := mem_turned hne ho
          rw [show gbV y = bv (gb1 y) (gb2 y) (gb3 y) by rw [gbV, ho]; rfl]
          obtain ⟨d, hd⟩ : ∃ z, z = gb1 y := ⟨_, rfl⟩
          obtain ⟨r, hr⟩ : ∃ z, z = gb2 y := ⟨_, rfl⟩
          obtain ⟨s, hs⟩ : ∃ z, z = gb3 y := ⟨_, rfl⟩
          rw [← hd, ← hr, ← hs] at hn ⊢
          have HN := Lib.hid hn
          clear ho hne hcs hd hr hs hn
          go_wp2_with (fail)
          all_goals go_ret
          all_goals refine ⟨ret_bool ?_, hBs.alloc hBs.size _⟩
          all_goals first | rfl | (have hn2 := HN.out; simp_all; done) | (have hn2 := HN.out; simp; omega)

end Go.Proofs.Ytgdkcdgomopnfaa
