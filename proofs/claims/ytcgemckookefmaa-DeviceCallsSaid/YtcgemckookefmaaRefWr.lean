/-
  The reference's Write, by contract.
-/
import Derived.Test.YtcgemckookefmaaRefOps
namespace Go.Proofs.Ytcgemckookefmaa
open Go.RowKit Go.Maps

theorem Rf.call_n (F : Rf) : F.call.n = F.n := by unfold Rf.call; split <;> rfl
theorem Rf.call_S (F : Rf) : F.call.S = F.S := by unfold Rf.call; split <;> rfl

section
variable (M : Nat → Prop) (L : RLay) (F : Rf) (w : World)
theorem rwrite_dead (i s : Int) (a : Option Addr) (n c : Nat) (h : RefAt w M L F) (hd : F.dead = true) :
    Calls Try.prog 31 #[.pointer (some ⟨L.p, 0, none⟩), .int .i64 i, .int .i64 s, .slice a n c] w fun e w' => e = .returned (.int .i64 12) ∧ w = w' := by
  obtain ⟨fl, fc, h⟩ := h
  have c7 := h.c7
  rw [hd] at c7
  clear hd
  go_enter Try.func31, Try.ntmps31
  go_wp2
  go_ret
  exact ⟨rfl, rfl⟩
theorem rwrite_bad (i s : Int) (a : Option Addr) (n c : Nat) (h : RefAt w M L F) (hd : F.dead = false) (hb : hasB F.n F.S i s = false ∨ n ≠ 64) :
    Calls Try.prog 31 #[.pointer (some ⟨L.p, 0, none⟩), .int .i64 i, .int .i64 s, .slice a n c] w fun e w' => e = .returned (.int .i64 11) ∧ w = w' := by
  cases hh : hasB F.n F.S i s with
  | false =>
    have ht := there_no M L F w i s h hh
    obtain ⟨fl, fc, h⟩ := h
    have c7 := h.c7
    rw [hd] at c7
    clear hd hh hb
    go_enter Try.func31, Try.ntmps31
    go_wp2_with (go_at_call 42; refine ht.mono ?_; rintro e w' ⟨rfl, rfl⟩)
    go_ret
    exact ⟨rfl, rfl⟩
  | true =>
    have ht := there_yes M L F w i s h hh
    obtain ⟨fl, fc, h⟩ := h
    have c7 := h.c7
    rw [hd] at c7
    have hn : ((n : Int) != 64) = true := by
      rcases hb with hb | hb
      · rw [hh] at hb; cases hb
      · simp; omega
    clear hd hh hb
    go_enter Try.func31, Try.ntmps31
    go_wp2_with (go_at_call 42; refine ht.mono ?_; rintro e w' ⟨rfl, rfl⟩)
    go_ret
    exact ⟨rfl, rfl⟩
theorem rwrite_err (i s : Nat) (a : Option Addr) (c : Nat) (h : RefAt w M L F) (hd : F.dead = false) (hi : i < F.n) (hs : s < F.S) (hE : F.callE ≠ 0) :
    Calls Try.prog 31 #[.pointer (some ⟨L.p, 0, none⟩), .int .i64 i, .int .i64 s, .slice a 64 c] w (RefPost M L F.call w (.int .i64 F.callE)) := by
  have ht := there_yes M L F w i s h (hasB_yes (by omega) (by omega) (by omega) (by omega))
  have hcall := refcall_any M L F w h
  obtain ⟨fl, fc, h⟩ := h
  have c7 := h.c7
  rw [hd] at c7
  have hne : (F.callE != 0) = true := by simpa using hE
  clear hd hE
  go_enter Try.func31, Try.ntmps31
  go_wp2_with (first
    | (go_at_call 42; refine ht.mono ?_; rintro e w' ⟨rfl, rfl⟩)
    | (go_at_call 48; refine hcall.mono ?_; rintro e w' ⟨rfl, hr, ht⟩))
  go_ret
  exact ⟨rfl, hr, ht⟩
theorem rwrite_failed (i s : Nat) (a : Option Addr) (c : Nat) (h : RefAt w M L F) (hd : F.dead = false) (hi : i < F.n) (hs : s < F.S) (hE : F.callE = 0) (hb : F.call.bad i = true) :
    Calls Try.prog 31 #[.pointer (some ⟨L.p, 0, none⟩), .int .i64 i, .int .i64 s, .slice a 64 c] w (RefPost M L F.call w (.int .i64 13)) := by
  have ht := there_yes M L F w i s h (hasB_yes (by omega) (by omega) (by omega) (by omega))
  have hcall := refcall_any M L F w h
  rw [hE] at hcall
  obtain ⟨n, hn⟩ : ∃ n, Hid (n = F.n) := ⟨_, Lib.hid rfl⟩
  have hin : i < n := by rw [hn.out]; exact hi
  obtain ⟨fl, fc, h⟩ := h
  have c7 := h.c7
  rw [hd] at c7
  have hb' : Hid (F.call.bad i = true) := hb
  clear hd hE hb
  go_enter Try.func31, Try.ntmps31
  go_wp2_with (go_at_call 42; refine ht.mono ?_; rintro e w' ⟨rfl, rfl⟩)
  refine hcall.mono ?_
  rintro e w1 ⟨rfl, ⟨fl1, fc1, hr⟩, ht1⟩
  have c4 := hr.c4
  rw [Rf.call_n, ← hn.out] at c4
  have b0 := hr.cb.cell (k := i) (by rw [Rf.call_n]; exact hi)
  simp only [hb'.out] at b0
  go_wp2_with (fail)
  go_ret
  exact ⟨rfl, ⟨fl1, fc1, hr⟩, ht1⟩

set_option maxHeartbeats 1000000 in
theorem rwrite_ok (i s b off c : Nat) (zs : List Int) (h : RefAt w M L F) (hd : F.dead = false) (hi : i < F.n) (hs : s < F.S) (hE : F.callE = 0) (hb : F.call.bad i = false) (hz : Bys w (some ⟨b, off, none⟩) 64 zs) (hzM : ¬ M b) :
    Calls Try.prog 31 #[.pointer (some ⟨L.p, 0, none⟩), .int .i64 i, .int .i64 s, .slice (some ⟨b, off, none⟩) 64 c] w (RefPost M L { F.call with C := atI F.call.C (i * F.S + s) (some zs) } w (.int .i64 0)) := by
  have ht := there_yes M L F w i s h (hasB_yes (by omega) (by omega) (by omega) (by omega))
  have hcall := refcall_any M L F w h
  rw [hE] at hcall
  obtain ⟨n, hn⟩ : ∃ n, Hid (n = F.n) := ⟨_, Lib.hid rfl⟩
  obtain ⟨S, hS⟩ : ∃ S, Hid (S = F.S) := ⟨_, Lib.hid rfl⟩
  have hin : i < n := by rw [hn.out]; exact hi
  obtain ⟨fl, fc, h⟩ := h
  have few := h.few
  have fewS := h.fewS
  obtain ⟨k, N, hN, hk, hkN, hkE, m0, m1⟩ := place hi hs few fewS
  have c7 := h.c7
  rw [hd] at c7
  rw [← hS.out] at hkE m0 m1
  have hb' : Hid (F.call.bad i = false) := hb
  have hsub := Lib.hid h.sub
  clear hd hE hb
  go_enter Try.func31, Try.ntmps31
  go_wp2_with (go_at_call 42; refine ht.mono ?_; rintro e w' ⟨rfl, rfl⟩)
  refine hcall.mono ?_
  rintro e w1 ⟨rfl, ⟨fl1, fc1, hr⟩, ht1⟩
  have hkN' : k < F.call.n * F.call.S := by rw [Rf.call_n, Rf.call_S, ← hN.out]; exact hkN
  have c4 := hr.c4
  have c3 := hr.c3
  have c1 := hr.c1
  rw [Rf.call_n, Rf.call_S, ← hN.out] at c3
  rw [Rf.call_n, ← hn.out] at c4
  rw [Rf.call_S, ← hS.out] at c1
  have b0 := hr.cb.cell (k := i) (by rw [Rf.call_n]; exact hi)
  simp only [hb'.out] at b0
  have q := hr.cc.cell hkN'
  have f := hr.cc.free k
  obtain ⟨v0, hv0⟩ : ∃ v, Hid (v = fc1 k) := ⟨_, Lib.hid rfl⟩
  rw [← hv0.out] at q
  have hz1 : Bys w1 (some ⟨b, off, none⟩) 64 zs := bys_turn hz ht1 (fun b' off' e x => by cases e; exact hzM (hsub.out _ x))
  have hcp := copy_new b off 64 c zs w1.drew (⟨hz1.len, hz1.small, hz1.place⟩ : Bys w1.drew _ 64 _) (by omega) (by omega)
  have lp := hr.ltp
  have lc := hr.cc.lt
  have i0 : (0 : Int) ≤ (k : Int) := Int.natCast_nonneg _
  have i1 : (k : Int) < (N : Int) := by omega
  have x1 : IntKind.i64.wrap ((i : Int) * (S : Int)) = (i : Int) * (S : Int) := IntWalk.i64_in _ (by omega)
  have x2 : IntKind.i64.wrap (k : Int) = (k : Int) := IntWalk.i64_in _ (by omega)
  have hpc : Hid (L.p ≠ L.cb) := hr.apart.pc
  have fin : Hid (∀ (w2 : World) (g cv : Nat), w1.drew.heap.size ≤ g → Bys w2 (some ⟨g, 0, none⟩) 64 zs → Below w1.drew.heap.size w1.drew w2 →
      RefAt (w2.setCell ⟨L.cb, k, none⟩ (.slice (some ⟨g, 0, none⟩) 64 cv)) M L { F.call with C := atI F.call.C (i * F.S + s) (some zs) } ∧ Turn L.M w (w2.setCell ⟨L.cb, k, none⟩ (.slice (some ⟨g, 0, none⟩) 64 cv))) := by
    intro w2 g cv hg hy hbel
    have hr2 : RefD w2 M L F.call fl1 fc1 := hr.keep (Turn.of_below (M := fun _ => False) (undrew hbel)) (fun _ x => x.elim) (fun _ _ x => x)
    have hgM : ¬ M g := fun x => by
      have h1 := hr.low g x
      have h2 : w1.heap.size ≤ g := hg
      omega
    have h3 := hr2.setC hkN' (.slice (some ⟨g, 0, none⟩) 64 cv) (some zs) (.inr ⟨zs, rfl, g, cv, rfl, hgM, hy⟩)
    rw [hk.out] at h3
    refine ⟨⟨_, _, by rw [hk.out]; exact h3⟩, (ht1.trans (Turn.of_below (undrew hbel))).trans ((turn_set w2 L.cb k _).mono fun j e => e ▸ L.M_cb)⟩
  clear h hz hz1 hr ht1 hcall ht
  go_wp2_with (fail)
  go_region_held3 (fun w' => w'.cell? ⟨L.p, 1, none⟩ = some (.int .i64 S) ∧ w'.cell? ⟨L.p, 3, none⟩ = some (.slice (some ⟨L.cb, 0, none⟩) N L.k2))
    (first
      | go_keep
      | exact ⟨(hb2.cell (p := ⟨L.p, 1, none⟩) lp).trans c1, (hb2.cell (p := ⟨L.p, 3, none⟩) lp).trans c3⟩
      | exact ⟨((turn_set w2 L.cb k _).cell (a := ⟨L.p, 1, none⟩) (Nat.lt_of_lt_of_le lp hb2.size) hpc.out).trans ((hb2.cell (p := ⟨L.p, 1, none⟩) lp).trans c1), ((turn_set w2 L.cb k _).cell (a := ⟨L.p, 3, none⟩) (Nat.lt_of_lt_of_le lp hb2.size) hpc.out).trans ((hb2.cell (p := ⟨L.p, 3, none⟩) lp).trans c3)⟩)
    (first
      | (go_at_call 30
         refine hcp.mono ?_
         rintro e w2 ⟨g, cv, rfl, hg, hy2, hb2⟩
         have q2 := (hb2.cell (p := ⟨L.cb, k, none⟩) lc).trans q
         have f2 := (hb2.frozen (p := ⟨L.cb, k, none⟩) lc).trans f))
  go_wp2_with (fail)
  go_ret
  exact ⟨rfl, fin.out w2 g cv hg hy2 hb2⟩
end

end Go.Proofs.Ytcgemckookefmaa
