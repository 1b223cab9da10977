/-
  The reference's calls that have no loop, by contract.
-/
import Derived.Test.YtcgemckookefmaaRefCall
import Derived.Deep.RegionHeld3
namespace Go.Proofs.Ytcgemckookefmaa
open Go.RowKit Go.Maps

theorem copy_new (b off la ca : Nat) (x : List Int) (w : World) (hx : Bys w (some ⟨b, off, none⟩) la x) (hla : la ≤ 1000000000000) (h0 : 0 < la) :
    Calls Try.prog 30 #[.slice (some ⟨b, off, none⟩) la ca] w (NewSlice w la x) := by
  refine (copy_any (some ⟨b, off, none⟩) la ca x w hx (fun e => by cases e) hla).mono ?_
  rintro e w' ⟨v, rfl, hown, hb⟩
  obtain ⟨a, c, rfl, h1, h2, _⟩ := hown.form
  rcases hown.row.2 with ⟨h, h'⟩ | ⟨g, cap, cur, h, hg, _⟩
  · omega
  · cases h
    exact ⟨g, _, rfl, hg, h2, hb⟩

/-- A sector's place among all. -/
theorem place {n S i s : Nat} (hi : i < n) (hs : s < S) (hn : n ≤ 17) (hS : S ≤ 4096) : ∃ k N : Nat, Hid (N = n * S) ∧ Hid (k = i * S + s) ∧ k < N ∧ (i : Int) * (S : Int) + (s : Int) = (k : Int) ∧ 0 ≤ (i : Int) * (S : Int) ∧ (i : Int) * (S : Int) ≤ 100000 := by
  have h1 : (i + 1) * S ≤ n * S := Nat.mul_le_mul_right S hi
  have h2 : i * S ≤ 17 * 4096 := Nat.mul_le_mul (by omega) hS
  rw [Nat.succ_mul] at h1
  have h3 : (i : Int) * (S : Int) = ((i * S : Nat) : Int) := by simp
  exact ⟨i * S + s, n * S, rfl, rfl, by omega, by rw [h3]; omega, by rw [h3]; omega, by rw [h3]; omega⟩

def Rf.rd (F : Rf) (k : Nat) : List Int := (F.C k).getD (F.L k)

section
variable (M : Nat → Prop) (L : RLay) (F : Rf) (w : World)
theorem rread_dead (i s : Int) (h : RefAt w M L F) (hd : F.dead = true) :
    Calls Try.prog 29 #[.pointer (some ⟨L.p, 0, none⟩), .int .i64 i, .int .i64 s] w fun e w' => e = .returned (.tuple #[.slice none 0 0, .int .i64 12]) ∧ w = w' := by
  obtain ⟨fl, fc, h⟩ := h
  have c7 := h.c7
  rw [hd] at c7
  clear hd
  go_enter Try.func29, Try.ntmps29
  go_wp2
  go_ret2
  exact ⟨rfl, rfl⟩
theorem rread_bad (i s : Int) (h : RefAt w M L F) (hd : F.dead = false) (hb : hasB F.n F.S i s = false) :
    Calls Try.prog 29 #[.pointer (some ⟨L.p, 0, none⟩), .int .i64 i, .int .i64 s] w fun e w' => e = .returned (.tuple #[.slice none 0 0, .int .i64 11]) ∧ w = w' := by
  have ht := there_no M L F w i s h hb
  obtain ⟨fl, fc, h⟩ := h
  have c7 := h.c7
  rw [hd] at c7
  clear hd hb
  go_enter Try.func29, Try.ntmps29
  go_wp2_with (go_at_call 42; refine ht.mono ?_; rintro e w' ⟨rfl, rfl⟩)
  go_ret2
  exact ⟨rfl, rfl⟩
theorem rread_failed (i s : Nat) (h : RefAt w M L F) (hd : F.dead = false) (hi : i < F.n) (hs : s < F.S) (hb : F.bad i = true) :
    Calls Try.prog 29 #[.pointer (some ⟨L.p, 0, none⟩), .int .i64 i, .int .i64 s] w fun e w' => e = .returned (.tuple #[.slice none 0 0, .int .i64 13]) ∧ w = w' := by
  have ht := there_yes M L F w i s h (hasB_yes (by omega) (by omega) (by omega) (by omega))
  obtain ⟨fl, fc, h⟩ := h
  have c7 := h.c7
  have c4 := h.c4
  have b0 := h.cb.cell hi
  rw [hd] at c7
  simp only [hb] at b0
  clear hd hb
  go_enter Try.func29, Try.ntmps29
  go_wp2_with (go_at_call 42; refine ht.mono ?_; rintro e w' ⟨rfl, rfl⟩)
  go_ret2
  exact ⟨rfl, rfl⟩
theorem rread_ok (i s : Nat) (h : RefAt w M L F) (hd : F.dead = false) (hi : i < F.n) (hs : s < F.S) (hb : F.bad i = false) :
    Calls Try.prog 29 #[.pointer (some ⟨L.p, 0, none⟩), .int .i64 i, .int .i64 s] w (RetBE w (F.rd (i * F.S + s))) := by
  have ht := there_yes M L F w i s h (hasB_yes (by omega) (by omega) (by omega) (by omega))
  obtain ⟨fl, fc, h⟩ := h
  have few := h.few
  have fewS := h.fewS
  obtain ⟨k, N, hN, hk, hkN, hkE, m0, m1⟩ := place hi hs few fewS
  have c7 := h.c7
  have c4 := h.c4
  have c1 := h.c1
  have c2 := h.c2
  have c3 := h.c3
  have b0 := h.cb.cell hi
  have l0 := h.cl.cell (k := k) (by rw [← hN.out]; exact hkN)
  have l1 := h.cc.cell (k := k) (by rw [← hN.out]; exact hkN)
  have hL := h.last k (by rw [← hN.out]; exact hkN)
  have hC := h.cach k (by rw [← hN.out]; exact hkN)
  rw [← hk.out]
  rw [← hN.out] at c2 c3
  rw [hd] at c7
  simp only [hb] at b0
  clear hd hb
  rcases hC with ⟨e0, e1⟩ | ⟨zs, e0, g, c, e1, hg, hy⟩
  · obtain ⟨g, c, e2, hg, hy⟩ := hL
    have er : F.rd k = F.L k := by simp [Rf.rd, e0]
    rw [er]
    rw [e1] at l1
    rw [e2] at l0
    have hcp := copy_new g 0 64 c _ w hy (by omega) (by omega)
    have hlen : Hid ((F.L k).length = 64) := hy.len
    clear e0 e1 e2 er hy
    go_enter Try.func29, Try.ntmps29
    go_wp2_with (first
      | (go_at_call 42; refine ht.mono ?_; rintro e w' ⟨rfl, rfl⟩)
      | (go_at_call 30; refine hcp.mono ?_; rintro e w1 ⟨g1, cv, rfl, hg1, hy1, hb1⟩))
    go_ret2
    refine ⟨some ⟨g1, 0, none⟩, cv, ?_, ?_⟩
    · rw [hlen.out]; rfl
    · rw [hlen.out]; exact ⟨hy1, (fun e => by cases e), hb1⟩
  · have er : F.rd k = zs := by simp [Rf.rd, e0]
    rw [er]
    rw [e1] at l1
    have hcp := copy_new g 0 64 c _ w hy (by omega) (by omega)
    have hlen : Hid (zs.length = 64) := hy.len
    clear e0 e1 er hy
    go_enter Try.func29, Try.ntmps29
    go_wp2_with (first
      | (go_at_call 42; refine ht.mono ?_; rintro e w' ⟨rfl, rfl⟩)
      | (go_at_call 30; refine hcp.mono ?_; rintro e w1 ⟨g1, cv, rfl, hg1, hy1, hb1⟩))
    go_ret2
    refine ⟨some ⟨g1, 0, none⟩, cv, ?_, ?_⟩
    · rw [hlen.out]; rfl
    · rw [hlen.out]; exact ⟨hy1, (fun e => by cases e), hb1⟩

theorem rlast_bad (i s : Int) (h : RefAt w M L F) (hb : hasB F.n F.S i s = false) :
    Calls Try.prog 19 #[.pointer (some ⟨L.p, 0, none⟩), .int .i64 i, .int .i64 s] w fun e w' => e = .returned (.tuple #[.slice none 0 0, .int .i64 11]) ∧ w = w' := by
  have ht := there_no M L F w i s h hb
  clear hb
  go_enter Try.func19, Try.ntmps19
  go_wp2_with (go_at_call 42; refine ht.mono ?_; rintro e w' ⟨rfl, rfl⟩)
  go_ret2
  exact ⟨rfl, rfl⟩
theorem rlast_ok (i s : Nat) (h : RefAt w M L F) (hi : i < F.n) (hs : s < F.S) :
    Calls Try.prog 19 #[.pointer (some ⟨L.p, 0, none⟩), .int .i64 i, .int .i64 s] w (RetBE w (F.L (i * F.S + s))) := by
  have ht := there_yes M L F w i s h (hasB_yes (by omega) (by omega) (by omega) (by omega))
  obtain ⟨fl, fc, h⟩ := h
  have few := h.few
  have fewS := h.fewS
  obtain ⟨k, N, hN, hk, hkN, hkE, m0, m1⟩ := place hi hs few fewS
  have c1 := h.c1
  have c2 := h.c2
  have l0 := h.cl.cell (k := k) (by rw [← hN.out]; exact hkN)
  obtain ⟨g, c, e2, hg, hy⟩ := h.last k (by rw [← hN.out]; exact hkN)
  rw [← hk.out]
  rw [← hN.out] at c2
  rw [e2] at l0
  have hcp := copy_new g 0 64 c _ w hy (by omega) (by omega)
  have hlen : Hid ((F.L k).length = 64) := hy.len
  have hcp' := copy_new g 0 64 c _ w.drew (⟨hy.len, hy.small, hy.place⟩ : Bys w.drew _ 64 _) (by omega) (by omega)
  have i0 : (0 : Int) ≤ (k : Int) := Int.natCast_nonneg _
  have i1 : (k : Int) < (N : Int) := by omega
  have lp := h.ltp
  have ll := h.cl.lt
  have x1 : IntKind.i64.wrap ((i : Int) * (F.S : Int)) = (i : Int) * (F.S : Int) := IntWalk.i64_in _ (by omega)
  have x2 : IntKind.i64.wrap (k : Int) = (k : Int) := IntWalk.i64_in _ (by omega)
  clear e2 hy hcp
  go_enter Try.func19, Try.ntmps19
  go_wp2_with (go_at_call 42; refine ht.mono ?_; rintro e w' ⟨rfl, rfl⟩)
  go_region_held3 (fun w' => w'.cell? ⟨L.p, 1, none⟩ = some (.int .i64 F.S) ∧ w'.cell? ⟨L.p, 2, none⟩ = some (.slice (some ⟨L.lb, 0, none⟩) N L.k1) ∧ w'.cell? ⟨L.lb, k, none⟩ = some (.slice (some ⟨g, 0, none⟩) 64 c))
    (first
      | go_keep
      | exact ⟨(hb1.cell (p := ⟨L.p, 1, none⟩) lp).trans c1, (hb1.cell (p := ⟨L.p, 2, none⟩) lp).trans c2, (hb1.cell (p := ⟨L.lb, k, none⟩) ll).trans l0⟩)
    (first
      | (go_at_call 30
         refine hcp'.mono ?_
         rintro e w1 ⟨g1, cv, rfl, hg1, hy1, hb1⟩))
  go_wp2_with (fail)
  go_ret2
  refine ⟨some ⟨g1, 0, none⟩, cv, ?_, ?_⟩
  · rw [hlen.out]; rfl
  · rw [hlen.out]; exact ⟨hy1, (fun e => by cases e), undrew hb1⟩

theorem rarm_any (n : Int) (h : RefAt w M L F) (hn : n ≤ 9223372036854775807) :
    Calls Try.prog 33 #[.pointer (some ⟨L.p, 0, none⟩), .int .i64 n] w (RefPost M L { F with pw := max n (-1) } w (.tuple #[])) := by
  obtain ⟨fl, fc, h⟩ := h
  have c6 := h.c6
  have f6 := h.fp 6
  go_enter Try.func33, Try.ntmps33
  go_wp2
  go_end0
  exact ⟨rfl, ⟨fl, fc, h.setPw _ (by omega)⟩, (turn_set w L.p 6 _).mono fun k e => e ▸ L.M_p⟩

theorem rdoom_bad (i n : Int) (h : RefAt w M L F) (hb : ¬ (0 ≤ i ∧ i < F.n)) :
    Calls Try.prog 34 #[.pointer (some ⟨L.p, 0, none⟩), .int .i64 i, .int .i64 n] w fun e w' => e = .returned (.int .i64 11) ∧ w = w' := by
  obtain ⟨fl, fc, h⟩ := h
  have c0 := h.c0
  by_cases h0 : i < 0
  · clear hb
    go_enter Try.func34, Try.ntmps34
    go_wp2
    go_ret
    exact ⟨rfl, rfl⟩
  · have h1 : (F.n : Int) ≤ i := by omega
    clear hb
    go_enter Try.func34, Try.ntmps34
    go_wp2
    go_ret
    exact ⟨rfl, rfl⟩
theorem rdoom_ok (i : Nat) (n : Int) (h : RefAt w M L F) (hi : i < F.n) (hn : n ≤ 9223372036854775807) :
    Calls Try.prog 34 #[.pointer (some ⟨L.p, 0, none⟩), .int .i64 i, .int .i64 n] w (RefPost M L { F with cnt := atI F.cnt i (max n (-1)) } w (.int .i64 0)) := by
  obtain ⟨fl, fc, h⟩ := h
  have c0 := h.c0
  have c5 := h.c5
  have b0 := h.cn.cell hi
  have f0 := h.cn.free i
  go_enter Try.func34, Try.ntmps34
  go_wp2
  go_ret
  exact ⟨rfl, ⟨fl, fc, h.setCnt hi _ (by omega)⟩, (turn_set w L.nb i _).mono fun k e => e ▸ L.M_nb⟩

def Rf.failed (F : Rf) (i : Int) : Bool := decide (0 ≤ i ∧ i < F.n) && F.bad i.toNat
theorem rfailed (i : Int) (h : RefAt w M L F) :
    Calls Try.prog 17 #[.pointer (some ⟨L.p, 0, none⟩), .int .i64 i] w fun e w' => e = .returned (.bool (F.failed i)) ∧ w = w' := by
  obtain ⟨fl, fc, h⟩ := h
  have c0 := h.c0
  have c4 := h.c4
  by_cases h0 : 0 ≤ i
  · by_cases h1 : i < F.n
    · obtain ⟨m, rfl⟩ := Int.eq_ofNat_of_zero_le h0
      have hm : m < F.n := by omega
      have b0 := h.cb.cell hm
      have e : Hid (F.failed m = F.bad m) := by
        unfold Rf.failed Hid
        simp [hm]
      go_enter Try.func17, Try.ntmps17
      go_wp2
      go_ret
      exact ⟨ret_bool e.out.symm, rfl⟩
    · have e : Hid (F.failed i = false) := by unfold Rf.failed Hid; rw [decide_eq_false (by omega)]; rfl
      go_enter Try.func17, Try.ntmps17
      go_wp2
      go_ret
      exact ⟨ret_bool e.out.symm, rfl⟩
  · have e : Hid (F.failed i = false) := by unfold Rf.failed Hid; rw [decide_eq_false (by omega)]; rfl
    go_enter Try.func17, Try.ntmps17
    go_wp2
    go_ret
    exact ⟨ret_bool e.out.symm, rfl⟩
end

end Go.Proofs.Ytcgemckookefmaa
