/-
  The reference's Flush, by contract.
-/
import Derived.Test.YtcgemckookefmaaRefWr
import Derived.StillTailTactics
namespace Go.Proofs.Ytcgemckookefmaa
open Go.RowKit Go.Maps

section
variable (M : Nat → Prop) (L : RLay) (F : Rf) (w : World)
theorem rflush_dead (i : Int) (h : RefAt w M L F) (hd : F.dead = true) :
    Calls Try.prog 32 #[.pointer (some ⟨L.p, 0, none⟩), .int .i64 i] w fun e w' => e = .returned (.int .i64 12) ∧ w = w' := by
  obtain ⟨fl, fc, h⟩ := h
  have c7 := h.c7
  rw [hd] at c7
  clear hd
  go_enter Try.func32, Try.ntmps32
  go_wp2
  go_ret
  exact ⟨rfl, rfl⟩
theorem rflush_bad (i : Int) (h : RefAt w M L F) (hd : F.dead = false) (hb : ¬ (0 ≤ i ∧ i < F.n)) :
    Calls Try.prog 32 #[.pointer (some ⟨L.p, 0, none⟩), .int .i64 i] w fun e w' => e = .returned (.int .i64 11) ∧ w = w' := by
  have ht := there_no M L F w i 0 h (hasB_disk hb)
  obtain ⟨fl, fc, h⟩ := h
  have c7 := h.c7
  rw [hd] at c7
  clear hd hb
  go_enter Try.func32, Try.ntmps32
  go_wp2_with (go_at_call 42; refine ht.mono ?_; rintro e w' ⟨rfl, rfl⟩)
  go_ret
  exact ⟨rfl, rfl⟩
theorem there_zero (i : Nat) (h : RefAt w M L F) (hi : i < F.n) :
    Calls Try.prog 42 #[.pointer (some ⟨L.p, 0, none⟩), .int .i64 i, .int .i64 0] w fun e w' => e = .returned (.bool true) ∧ w = w' := by
  have : 1 ≤ F.S := by obtain ⟨_, _, h⟩ := h; exact h.one
  exact there_yes M L F w i 0 h (hasB_yes (by omega) (by omega) (by omega) (by omega))
theorem rflush_err (i : Nat) (h : RefAt w M L F) (hd : F.dead = false) (hi : i < F.n) (hE : F.callE ≠ 0) :
    Calls Try.prog 32 #[.pointer (some ⟨L.p, 0, none⟩), .int .i64 i] w (RefPost M L F.call w (.int .i64 F.callE)) := by
  have ht := there_zero M L F w i h hi
  have hcall := refcall_any M L F w h
  obtain ⟨fl, fc, h⟩ := h
  have c7 := h.c7
  rw [hd] at c7
  have hne : (F.callE != 0) = true := by simpa using hE
  clear hd hE
  go_enter Try.func32, Try.ntmps32
  go_wp2_with (first
    | (go_at_call 42; refine ht.mono ?_; rintro e w' ⟨rfl, rfl⟩)
    | (go_at_call 48; refine hcall.mono ?_; rintro e w' ⟨rfl, hr, ht⟩))
  go_ret
  exact ⟨rfl, hr, ht⟩
theorem rflush_failed (i : Nat) (h : RefAt w M L F) (hd : F.dead = false) (hi : i < F.n) (hE : F.callE = 0) (hb : F.call.bad i = true) :
    Calls Try.prog 32 #[.pointer (some ⟨L.p, 0, none⟩), .int .i64 i] w (RefPost M L F.call w (.int .i64 13)) := by
  have ht := there_zero M L F w i h hi
  have hcall := refcall_any M L F w h
  rw [hE] at hcall
  obtain ⟨n, hn⟩ : ∃ n, Hid (n = F.n) := ⟨_, Lib.hid rfl⟩
  have hin : i < n := by rw [hn.out]; exact hi
  obtain ⟨fl, fc, h⟩ := h
  have c7 := h.c7
  rw [hd] at c7
  have hb' : Hid (F.call.bad i = true) := hb
  clear hd hE hb
  go_enter Try.func32, Try.ntmps32
  go_wp2_with (go_at_call 42; refine ht.mono ?_; rintro e w' ⟨rfl, rfl⟩)
  refine hcall.mono ?_
  rintro e w1 ⟨rfl, ⟨fl1, fc1, hr⟩, ht1⟩
  have c4 := hr.c4
  rw [Rf.call_n, ← hn.out] at c4
  have b0 := hr.cb.cell (k := i) (by rw [Rf.call_n]; exact hi)
  simp only [hb'.out] at b0
  go_wp2_with (fail)
  go_ret
  exact ⟨rfl, ⟨fl1, fc1, hr⟩, ht1⟩

/-- The reference's rack of which what was cached from place a to place k lasts. -/
def Rf.flushed (F : Rf) (a k : Nat) : Rf := { F with L := fun j => if a ≤ j ∧ j < k then F.rd j else F.L j, C := fun j => if a ≤ j ∧ j < k then none else F.C j }
theorem flushed_start (a : Nat) : F.flushed a a = F := by
  have : ∀ j, ¬ (a ≤ j ∧ j < a) := fun j => by omega
  unfold Rf.flushed
  simp [this]
theorem flushed_L {a k : Nat} (h : a ≤ k) : (F.flushed a (k + 1)).L = atI (F.flushed a k).L k (F.rd k) := by
  funext j
  show (if a ≤ j ∧ j < k + 1 then F.rd j else F.L j) = if j = k then F.rd k else if a ≤ j ∧ j < k then F.rd j else F.L j
  by_cases e : j = k
  · subst e; rw [if_pos (by omega), if_pos rfl]
  · rw [if_neg e]
    by_cases e2 : a ≤ j ∧ j < k
    · rw [if_pos (by omega), if_pos e2]
    · rw [if_neg (by omega), if_neg e2]
theorem flushed_C {a k : Nat} (h : a ≤ k) : (F.flushed a (k + 1)).C = atI (F.flushed a k).C k none := by
  funext j
  show (if a ≤ j ∧ j < k + 1 then none else F.C j) = if j = k then none else if a ≤ j ∧ j < k then none else F.C j
  by_cases e : j = k
  · subst e; rw [if_pos (by omega), if_pos rfl]
  · rw [if_neg e]
    by_cases e2 : a ≤ j ∧ j < k
    · rw [if_pos (by omega), if_pos e2]
    · rw [if_neg (by omega), if_neg e2]

set_option maxRecDepth 100000 in
set_option maxHeartbeats 2000000 in
theorem rflush_ok (i : Nat) (h : RefAt w M L F) (hd : F.dead = false) (hi : i < F.n) (hE : F.callE = 0) (hb : F.call.bad i = false) :
    Calls Try.prog 32 #[.pointer (some ⟨L.p, 0, none⟩), .int .i64 i] w (RefPost M L (F.call.flushed (i * F.S) ((i + 1) * F.S)) w (.int .i64 0)) := by
  have ht := there_zero M L F w i h hi
  have hcall := refcall_any M L F w h
  rw [hE] at hcall
  obtain ⟨n, hn⟩ : ∃ n, Hid (n = F.n) := ⟨_, Lib.hid rfl⟩
  obtain ⟨S, hS⟩ : ∃ S, Hid (S = F.S) := ⟨_, Lib.hid rfl⟩
  obtain ⟨N, hN⟩ : ∃ N, Hid (N = F.n * F.S) := ⟨_, Lib.hid rfl⟩
  obtain ⟨B, hB⟩ : ∃ B, Hid (B = i * F.S) := ⟨_, Lib.hid rfl⟩
  obtain ⟨E, hEE⟩ : ∃ E, Hid (E = (i + 1) * F.S) := ⟨_, Lib.hid rfl⟩
  have hin : i < n := by rw [hn.out]; exact hi
  obtain ⟨fl, fc, h⟩ := h
  have few := h.few
  have fewS := h.fewS
  have hEN : E ≤ N := by rw [hN.out, hEE.out]; exact Nat.mul_le_mul_right F.S hi
  have hBE : B ≤ E := by rw [hB.out, hEE.out]; exact Nat.mul_le_mul_right F.S (by omega)
  have hN1 : N ≤ 100000 := by
    have : F.n * F.S ≤ 17 * 4096 := Nat.mul_le_mul few fewS
    rw [hN.out]; omega
  have eB : (i : Int) * (S : Int) = (B : Int) := by rw [hB.out, hS.out]; simp
  have eE : ((i : Int) + 1) * (S : Int) = (E : Int) := by rw [hEE.out, hS.out]; simp
  have c7 := h.c7
  rw [hd] at c7
  have hb' : Hid (F.call.bad i = false) := hb
  rw [← hB.out, ← hEE.out]
  clear hd hE hb
  go_enter Try.func32, Try.ntmps32
  go_wp2_with (go_at_call 42; refine ht.mono ?_; rintro e w' ⟨rfl, rfl⟩)
  refine hcall.mono ?_
  rintro e w1 ⟨rfl, hr0, ht1⟩
  obtain ⟨F1, hF1⟩ : ∃ F1, Hid (F1 = F.call) := ⟨_, Lib.hid rfl⟩
  have hn1 : Hid (F1.n = n) := by unfold Hid; rw [hF1.out, Rf.call_n]; exact hn.out.symm
  have hS1 : Hid (F1.S = S) := by unfold Hid; rw [hF1.out, Rf.call_S]; exact hS.out.symm
  have hNN : Hid (F1.n * F1.S = N) := by unfold Hid; rw [hF1.out, Rf.call_n, Rf.call_S]; exact hN.out.symm
  rw [← hF1.out] at hr0
  obtain ⟨fl1, fc1, hr⟩ := hr0
  have c4 := hr.c4
  have c1 := hr.c1
  rw [hn1.out] at c4
  rw [hS1.out] at c1
  have b0 := hr.cb.cell (k := i) (by rw [hn1.out]; exact hin)
  simp only [hF1.out, hb'.out] at b0
  clear h hcall ht
  go_wp2_with (fail)
  go_loopw [6] (fun t wr => ∃ (k : Nat), B ≤ k ∧ k ≤ E ∧ t = .int .i64 k ∧ RefAt wr M L (F1.flushed B k) ∧ Turn L.M w wr) (fun t _ => E - (intOf t).toNat)
  case atStart => exact ⟨B, Nat.le_refl _, hBE, rfl, by rw [flushed_start]; exact ⟨fl1, fc1, hr⟩, ht1⟩
  case round =>
    obtain ⟨k, hBk, hkE, rfl, ⟨fl2, fc2, hr2⟩, ht2⟩ := hrel
    have a1 : wr.cell? ⟨L.p, 1, none⟩ = some (.int .i64 S) := by have := hr2.c1; rwa [show (F1.flushed B k).S = S from hS1.out] at this
    have a2 : wr.cell? ⟨L.p, 2, none⟩ = some (.slice (some ⟨L.lb, 0, none⟩) N L.k1) := by have := hr2.c2; rwa [show (F1.flushed B k).n * (F1.flushed B k).S = N from hNN.out] at this
    have a3 : wr.cell? ⟨L.p, 3, none⟩ = some (.slice (some ⟨L.cb, 0, none⟩) N L.k2) := by have := hr2.c3; rwa [show (F1.flushed B k).n * (F1.flushed B k).S = N from hNN.out] at this
    clear c1 c4 b0 c7 hr ht1
    by_cases hlt : k < E
    · have hkN : k < (F1.flushed B k).n * (F1.flushed B k).S := by rw [show (F1.flushed B k).n * (F1.flushed B k).S = N from hNN.out]; omega
      have l0 := hr2.cl.cell hkN
      have q0 := hr2.cc.cell hkN
      have fl0 := hr2.cl.free k
      have fq0 := hr2.cc.free k
      have A := hr2.apart
      have n1 := A.pl
      have n2 := Ne.symm A.pl
      have n3 := A.lc
      have n4 := Ne.symm A.lc
      have i0 : (0 : Int) ≤ (k : Int) := Int.natCast_nonneg _
      have i1 : (k : Int) < (N : Int) := by omega
      have hC := hr2.cach k hkN
      have eC : (F1.flushed B k).C k = F1.C k := by show (if B ≤ k ∧ k < k then none else F1.C k) = _; rw [if_neg (by omega)]
      have eL : (F1.flushed B k).L k = F1.L k := by show (if B ≤ k ∧ k < k then F1.rd k else F1.L k) = _; rw [if_neg (by omega)]
      rw [eC] at hC
      obtain ⟨vl, hvl⟩ : ∃ v, Hid (v = fl2 k) := ⟨_, Lib.hid rfl⟩
      rw [← hvl.out] at l0
      rcases hC with ⟨e0, e1⟩ | ⟨zs, e0, hsl⟩
      · rw [e1] at q0
        have hnext : Hid (RefD wr M L (F1.flushed B (k + 1)) fl2 fc2) := by
          refine hr2.congr rfl rfl rfl rfl (fun j _ => ?_) (fun j _ => ?_) (fun _ _ => rfl) (fun _ _ => rfl) hr2.bigc
          · rw [flushed_L F1 hBk]; unfold atI
            by_cases e : j = k
            · subst e; rw [if_pos rfl, eL]; simp [Rf.rd, e0]
            · rw [if_neg e]
          · rw [flushed_C F1 hBk]; unfold atI
            by_cases e : j = k
            · subst e; rw [if_pos rfl, eC, e0]
            · rw [if_neg e]
        clear hr2 e0 e1 eC eL A hvl
        go_wp2_with (fail)
        go_roundw
        case rel => exact ⟨k + 1, by omega, by omega, by go_num, ⟨fl2, fc2, hnext.out⟩, ht2⟩
        case measure => simp [intOf]; omega
      · obtain ⟨g, c, e1, hg, hy⟩ := hsl
        rw [e1] at q0
        have hd2 : RefD wr.drew M L (F1.flushed B k) fl2 fc2 := hr2.keep (turn_drew (fun _ => False) wr) (fun _ x => x.elim) (fun _ _ x => x)
        have h1 := hd2.setL hkN (.slice (some ⟨g, 0, none⟩) 64 c) zs ⟨g, c, rfl, hg, ⟨hy.len, hy.small, hy.place⟩⟩
        have h2 := h1.setC hkN (.slice none 0 0) none (.inl ⟨rfl, rfl⟩)
        have hnext : Hid (RefAt ((wr.drew.setCell ⟨L.lb, k, none⟩ (.slice (some ⟨g, 0, none⟩) 64 c)).setCell ⟨L.cb, k, none⟩ (.slice none 0 0)) M L (F1.flushed B (k + 1))) := by
          refine ⟨_, _, h2.congr rfl rfl rfl rfl (fun j _ => ?_) (fun j _ => ?_) (fun _ _ => rfl) (fun _ _ => rfl) hr2.bigc⟩
          · rw [flushed_L F1 hBk, show F1.rd k = zs by simp [Rf.rd, e0]]
          · rw [flushed_C F1 hBk]
        have hT : Hid (Turn L.M w ((wr.drew.setCell ⟨L.lb, k, none⟩ (.slice (some ⟨g, 0, none⟩) 64 c)).setCell ⟨L.cb, k, none⟩ (.slice none 0 0))) :=
          ((ht2.trans (turn_drew _ wr)).trans ((turn_set _ L.lb k _).mono fun j e => e ▸ L.M_lb)).trans ((turn_set _ L.cb k _).mono fun j e => e ▸ L.M_cb)
        clear hr2 hd2 h1 h2 e0 e1 eC eL A hvl hy
        go_wp2_with (fail)
        go_still_tail 13, (by kernel_rfl)
        change wpList _ _ _ _ _ wr.drew
        go_wp2_with (fail)
        go_roundw
        case rel => exact ⟨k + 1, by omega, by omega, by go_num, hnext.out, hT.out⟩
        case measure => simp [intOf]; omega
    · obtain rfl : k = E := by omega
      go_wp2_with (fail)
      go_ret
      rw [hF1.out] at hr2
      exact ⟨rfl, ⟨fl2, fc2, hr2⟩, ht2⟩
end

end Go.Proofs.Ytcgemckookefmaa
