/-
  The reference's Load, by contract.
-/
import Derived.Test.YtcgemckookefmaaRefRe
namespace Go.Proofs.Ytcgemckookefmaa
open Go.RowKit Go.Maps

theorem bys_turn' {M : Nat → Prop} {w w' : World} {a : Option Addr} {n : Nat} {zs : List Int} (h : Bys w a n zs) (ht : Turn M w w') (hm : n = 0 ∨ ∀ b off, a = some ⟨b, off, .none⟩ → ¬ M b) : Bys w' a n zs := by
  rcases hm with rfl | hm
  · exact ⟨h.len, h.small, .inl rfl⟩
  · exact bys_turn h ht hm

/-- The reference's rack of which k sectors from place B on are loaded. -/
def Rf.loaded (F : Rf) (B : Nat) (x : List Int) (k : Nat) : Rf := { F with L := fun j => if B ≤ j ∧ j < B + k then sec x (j - B) else F.L j, C := fun j => if B ≤ j ∧ j < B + k then none else F.C j }
section
variable (F : Rf)
theorem loaded_start (B : Nat) (x : List Int) : F.loaded B x 0 = F := by
  have : ∀ j, ¬ (B ≤ j ∧ j < B + 0) := fun j => by omega
  unfold Rf.loaded
  simp only [this, if_false]
theorem loaded_L (B : Nat) (x : List Int) (k : Nat) : (F.loaded B x (k + 1)).L = atI (F.loaded B x k).L (B + k) (sec x k) := by
  funext j
  show (if B ≤ j ∧ j < B + (k + 1) then sec x (j - B) else F.L j) = if j = B + k then sec x k else if B ≤ j ∧ j < B + k then sec x (j - B) else F.L j
  by_cases e : j = B + k
  · subst e; rw [if_pos (by omega), if_pos rfl, show B + k - B = k by omega]
  · rw [if_neg e]
    by_cases e2 : B ≤ j ∧ j < B + k
    · rw [if_pos (by omega), if_pos e2]
    · rw [if_neg (by omega), if_neg e2]
theorem loaded_C (B : Nat) (x : List Int) (k : Nat) : (F.loaded B x (k + 1)).C = atI (F.loaded B x k).C (B + k) none := by
  funext j
  show (if B ≤ j ∧ j < B + (k + 1) then none else F.C j) = if j = B + k then none else if B ≤ j ∧ j < B + k then none else F.C j
  by_cases e : j = B + k
  · subst e; rw [if_pos (by omega), if_pos rfl]
  · rw [if_neg e]
    by_cases e2 : B ≤ j ∧ j < B + k
    · rw [if_pos (by omega), if_pos e2]
    · rw [if_neg (by omega), if_neg e2]
end

theorem rload_bad (M : Nat → Prop) (L : RLay) (F : Rf) (w : World) (i : Int) (a : Option Addr) (n c : Nat) (h : RefAt w M L F) (hb : ¬ (0 ≤ i ∧ i < F.n)) :
    Calls Try.prog 37 #[.pointer (some ⟨L.p, 0, none⟩), .int .i64 i, .slice a n c] w fun e w' => e = .returned (.int .i64 11) ∧ w = w' := by
  obtain ⟨fl, fc, h⟩ := h
  have c0 := h.c0
  by_cases h0 : i < 0
  · clear hb
    go_enter Try.func37, Try.ntmps37
    go_wp2
    go_ret
    exact ⟨rfl, rfl⟩
  · have h1 : (F.n : Int) ≤ i := by omega
    clear hb
    go_enter Try.func37, Try.ntmps37
    go_wp2
    go_ret
    exact ⟨rfl, rfl⟩

set_option maxRecDepth 100000 in
set_option maxHeartbeats 4000000 in
theorem rload_ok (M : Nat → Prop) (L : RLay) (F : Rf) (w : World) (i la ca : Nat) (a : Option Addr) (zs : List Int) (h : RefAt w M L F) (hi : i < F.n) (hx : Bys w a la zs) (hxm : la = 0 ∨ ∀ b off, a = some ⟨b, off, none⟩ → ¬ L.M b) (hla : la ≤ 1000000000000) :
    Calls Try.prog 37 #[.pointer (some ⟨L.p, 0, none⟩), .int .i64 i, .slice a la ca] w (RefPost M L (F.loaded (i * F.S) (loadL F.S zs) F.S) w (.int .i64 0)) := by
  obtain ⟨fl, fc, h⟩ := h
  obtain ⟨n, hn⟩ : ∃ n, Hid (n = F.n) := ⟨_, Lib.hid rfl⟩
  obtain ⟨S, hS⟩ : ∃ S, Hid (S = F.S) := ⟨_, Lib.hid rfl⟩
  obtain ⟨N, hN⟩ : ∃ N, Hid (N = F.n * F.S) := ⟨_, Lib.hid rfl⟩
  obtain ⟨B, hB⟩ : ∃ B, Hid (B = i * F.S) := ⟨_, Lib.hid rfl⟩
  obtain ⟨x, hx0⟩ : ∃ x, Hid (x = loadL F.S zs) := ⟨_, Lib.hid rfl⟩
  have few := h.few
  have fewS := h.fewS
  have hin : (i : Int) < (n : Int) := by have := hn.out; omega
  have i0 : (0 : Int) ≤ (i : Int) := Int.natCast_nonneg _
  have hdn : decide (n ≤ i) = false := by simp; omega
  have hdn' : decide ((n : Int) ≤ (i : Int)) = false := by simp; omega
  have hdi : decide ((i : Int) < 0) = false := by simp
  have hS4 : (S : Int) ≤ 4096 := by have := hS.out; omega
  have hS1 : (1 : Int) ≤ (S : Int) := by have := h.one; have := hS.out; omega
  have hBN : B + S ≤ N := by
    have h1 : (i + 1) * F.S ≤ F.n * F.S := Nat.mul_le_mul_right F.S hi
    rw [Nat.succ_mul] at h1
    rw [hB.out, hN.out, hS.out]; exact h1
  have hN1 : N ≤ 100000 := by
    have : F.n * F.S ≤ 17 * 4096 := Nat.mul_le_mul few fewS
    rw [hN.out]; omega
  have eB : (i : Int) * (S : Int) = (B : Int) := by rw [hB.out, hS.out]; simp
  have hxl : x.length = S * 64 := by rw [hx0.out, hS.out]; exact loadL_len _ _
  have hxs : AllB x := by rw [hx0.out]; exact loadL_small _ hx.small
  have hxb : Hid (∀ j, j < S * 64 → byt x j = byt zs j) := fun j hj => by rw [hx0.out]; exact byt_loadL (by rw [← hS.out]; exact hj)
  have c0 := h.c0
  rw [← hn.out] at c0
  have hfin : Hid (F.loaded (i * F.S) (loadL F.S zs) F.S = F.loaded B x S) := by unfold Hid; rw [hB.out, hx0.out, hS.out]
  go_enter Try.func37, Try.ntmps37
  go_wp2_with (fail)
  go_loopw [7] (fun t wr => ∃ k : Nat, k ≤ S ∧ t = .int .i64 k ∧ RefAt wr M L (F.loaded B x k) ∧ Turn L.M w wr) (fun t _ => S - (intOf t).toNat)
  case atStart => exact ⟨0, Nat.zero_le _, rfl, by rw [loaded_start]; exact ⟨fl, fc, h⟩, Turn.refl _ _⟩
  case round =>
    obtain ⟨k, hk, rfl, hr2, ht2⟩ := hrel
    obtain ⟨fl2, fc2, hr2⟩ := hr2
    have a1 : wr.cell? ⟨L.p, 1, none⟩ = some (.int .i64 S) := by have := hr2.c1; rwa [show (F.loaded B x k).S = S from hS.out.symm] at this
    have hxr := bys_turn' hx ht2 hxm
    clear c0 h
    by_cases hlt : k < S
    · go_wp2_with (at_make; refine wpList_mk rfl _ _ rfl .i64 .i64 64 64 64 rfl rfl rfl rfl (by omega) ?_; intro w3 hb3 hl3)
      have hgM : ¬ M wr.heap.size := fun y => Nat.lt_irrefl _ (hr2.low _ y)
      have hgw : Hid (w.heap.size ≤ wr.heap.size) := ht2.size
      have ltp := hr2.ltp
      obtain ⟨g, hgg⟩ : ∃ g, Hid (g = wr.heap.size) := ⟨_, Lib.hid rfl⟩
      have hbg : Below g wr w3 := by rw [hgg.out]; exact hl3
      rw [← hgg.out] at hgM hb3 ⊢
      have k0 : (0 : Int) ≤ (k : Int) := Int.natCast_nonneg _
      have k1 : (k : Int) < (S : Int) := by omega
      have hsl : Hid ((sec x k).length = 64) := sec_len hxl hlt
      go_wp2_with (fail)
      obtain ⟨wo, rfl⟩ : ∃ wo : World, wo = wr := ⟨_, rfl⟩
      go_loopw [9] (fun t wq => ∃ (j : Nat) (ys : List Int), j ≤ 64 ∧ t = .int .i64 j ∧ Blk wq g ys ∧ Mix ys (List.replicate 64 0) (sec x k) j ∧ Below g wo wq) (fun t _ => 64 - (intOf t).toNat)
      case atStart => exact ⟨0, _, Nat.zero_le _, rfl, hb3, Mix.start (by rw [hsl.out]; simp), hbg⟩
      case round =>
        obtain ⟨j, ys, hj, rfl, hblk, hmix, hbel⟩ := hrel
        have hxq : Bys wr a la zs := hxr.below (by rw [hgg.out]; exact Nat.le_refl _) hbel
        clear hb3 hl3 hbg
        have hmd := hmix.len
        rw [hsl.out] at hmd
        by_cases hin2 : j < 64 ∧ k * 64 + j < la
        · obtain ⟨hj6, hja⟩ := hin2
          rcases hxq.place with h0 | ⟨ba, oa, rfl, hbl, hca⟩
          · omega
          have hci := hca (k * 64 + j) hja
          have cg := hblk.cell (i := j) (by omega)
          have fg := hblk.free j
          obtain ⟨v, hv⟩ : ∃ v, Hid (v = byt zs (k * 64 + j)) := ⟨_, Lib.hid rfl⟩
          rw [← hv.out] at hci
          have hnext := hmix.set (z := v) (by rw [hsl.out]; omega) (by rw [hv.out, byt_sec hj6, hxb.out _ (by omega)])
          have hnext' : Hid (Mix (ys.set j v) (List.replicate 64 0) (sec x k) (j + 1)) := hnext
          clear hca hxq hmix hnext hx hxr
          go_wp2_with (fail)
          go_roundw
          case rel => exact ⟨j + 1, ys.set j v, by omega, by go_num, hblk.set j v, hnext'.out, hbel.setCell (by rw [hgg.out]; exact Nat.le_refl _) _⟩
          case measure => simp [intOf]; omega
        · have hys : ys = sec x k := hmix.done fun t h1 h2 => by
            rw [hsl.out] at h2
            rw [byt_zero, byt_sec h2, hxb.out _ (by omega), byt_past (by rw [hx.len]; omega)]
          subst hys
          have hex : j = 64 ∨ (j < 64 ∧ la ≤ k * 64 + j) := by omega
          have hr4 : RefD wr M L (F.loaded B x k) fl2 fc2 := hr2.keep (Turn.of_below (M := fun _ => False) (by rw [← hgg.out]; exact hbel)) (fun _ x => x.elim) (fun _ _ x => x)
          have ht4 : Turn L.M w wr := ht2.trans (Turn.of_below (by rw [← hgg.out]; exact hbel))
          have hy4 : Bys wr (some ⟨g, 0, none⟩) 64 (sec x k) := hblk.bysn (hxs.sec k) hsl.out
          have hqN : B + k < (F.loaded B x k).n * (F.loaded B x k).S := by show B + k < F.n * F.S; rw [← hN.out]; omega
          obtain ⟨q, hq⟩ : ∃ q, Hid (q = B + k) := ⟨_, Lib.hid rfl⟩
          rw [← hq.out] at hqN
          have hkE : (i : Int) * (S : Int) + (k : Int) = (q : Int) := by rw [eB]; have := hq.out; omega
          have x1 : IntKind.i64.wrap ((i : Int) * (S : Int)) = (i : Int) * (S : Int) := by rw [eB]; exact IntWalk.i64_in _ (by omega)
          have x2 : IntKind.i64.wrap (q : Int) = (q : Int) := IntWalk.i64_in _ (by have := hq.out; omega)
          have q0 : (0 : Int) ≤ (q : Int) := Int.natCast_nonneg _
          have q1 : (q : Int) < (N : Int) := by have := hq.out; omega
          have A := hr4.apart
          have hcnt : (F.loaded B x k).n * (F.loaded B x k).S = N := hN.out.symm
          have d1 : wr.cell? ⟨L.p, 1, none⟩ = some (.int .i64 S) := by have := hr4.c1; rwa [show (F.loaded B x k).S = S from hS.out.symm] at this
          have d2 : wr.cell? ⟨L.p, 2, none⟩ = some (.slice (some ⟨L.lb, 0, none⟩) N L.k1) := by have := hr4.c2; rwa [hcnt] at this
          have dl := hr4.cl.cell hqN
          obtain ⟨vl, hvl⟩ : ∃ v, Hid (v = fl2 q) := ⟨_, Lib.hid rfl⟩
          rw [← hvl.out] at dl
          have dfl := hr4.cl.free q
          have hd5 : RefD wr.drew M L (F.loaded B x k) fl2 fc2 := hr4.keep (turn_drew (fun _ => False) _) (fun _ x => x.elim) (fun _ _ x => x)
          have hr5 := hd5.setL hqN (.slice (some ⟨g, 0, none⟩) 64 64) (sec x k) ⟨g, 64, rfl, hgM, ⟨hy4.len, hy4.small, hy4.place⟩⟩
          have ht5 : Turn L.M w (wr.drew.setCell ⟨L.lb, q, none⟩ (.slice (some ⟨g, 0, none⟩) 64 64)) := (ht4.trans (turn_drew _ _)).trans ((turn_set _ L.lb q _).mono fun j e => e ▸ L.M_lb)
          obtain ⟨w5, hw5⟩ : ∃ w5, w5 = (wr.setCell ⟨L.lb, q, none⟩ (.slice (some ⟨g, 0, none⟩) 64 64)).drew := ⟨_, rfl⟩
          rw [show wr.drew.setCell ⟨L.lb, q, none⟩ (.slice (some ⟨g, 0, none⟩) 64 64) = (wr.setCell ⟨L.lb, q, none⟩ (.slice (some ⟨g, 0, none⟩) 64 64)).drew from rfl, ← hw5] at hr5 ht5
          have e1 : w5.cell? ⟨L.p, 1, none⟩ = some (.int .i64 S) := by have := hr5.c1; rwa [show (F.loaded B x k).S = S from hS.out.symm] at this
          have e3 : w5.cell? ⟨L.p, 3, none⟩ = some (.slice (some ⟨L.cb, 0, none⟩) N L.k2) := by have := hr5.c3; rwa [show ({ F.loaded B x k with L := atI (F.loaded B x k).L q (sec x k) } : Rf).n * ({ F.loaded B x k with L := atI (F.loaded B x k).L q (sec x k) } : Rf).S = N from hcnt] at this
          have el := hr5.cc.cell hqN
          obtain ⟨vc, hvc⟩ : ∃ v, Hid (v = fc2 q) := ⟨_, Lib.hid rfl⟩
          rw [← hvc.out] at el
          have efl := hr5.cc.free q
          have hd6 : RefD w5.drew M L _ _ _ := hr5.keep (turn_drew (fun _ => False) _) (fun _ x => x.elim) (fun _ _ x => x)
          have hr6 := hd6.setC hqN (.slice none 0 0) none (.inl ⟨rfl, rfl⟩)
          have hend : Hid (RefAt (w5.drew.setCell ⟨L.cb, q, none⟩ (.slice none 0 0)) M L (F.loaded B x (k + 1)) ∧ Turn L.M w (w5.drew.setCell ⟨L.cb, q, none⟩ (.slice none 0 0))) := by
            refine ⟨⟨_, _, hr6.congr rfl rfl rfl rfl (fun j _ => ?_) (fun j _ => ?_) (fun _ _ => rfl) (fun _ _ => rfl) hr4.bigc⟩, (ht5.trans (turn_drew _ _)).trans ((turn_set _ L.cb q _).mono fun j e => e ▸ L.M_cb)⟩
            · rw [loaded_L F, hq.out]
            · rw [loaded_C F, hq.out]
          clear hr2 hxq hmix hx hxr hbel ht2 hblk hin2 hmd hr4 hd5 hr5 hd6 hr6 ht4 ht5 A hy4 a1 eB hcnt hxm hxl
          rcases hex with rfl | ⟨hj6, hja⟩
          all_goals
            go_wp2_with (fail)
            go_still_tail 14, (by kernel_rfl)
            change wpList _ _ _ _ _ wr.drew
            go_wp2_with (fail)
            rw [← hw5]
            clear hw5 d1 d2 dl dfl
            go_still_tail 13, (by kernel_rfl)
            change wpList _ _ _ _ _ w5.drew
            go_wp2_with (fail)
            go_roundw
            case rel => exact ⟨k + 1, by omega, by go_num, hend.out.1, hend.out.2⟩
            case measure => simp [intOf]; omega
    · obtain rfl : k = S := by omega
      clear hx hxr
      go_wp2_with (fail)
      go_ret
      rw [hfin.out]
      exact ⟨rfl, ⟨fl2, fc2, hr2⟩, ht2⟩

end Go.Proofs.Ytcgemckookefmaa
