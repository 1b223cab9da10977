/-
  The reference's Restore, by contract.
-/
import Derived.Test.YtciddoeeiamndaaGreatRka
import Derived.Deep.AppendLies
import Derived.Deep.RegionLaw
import Derived.Test.YtciddoeeiamndaaGreatOpm
namespace Go.Proofs.YtciddoeeiamndaaGreat
open Go.RowKit Go.Maps

theorem i64_and1 (n : Int) : bits .and .i64 n 1 = n % 2 := by
  have h3 : (BitVec.ofInt 64 1).toNat = 2 ^ 1 - 1 := by decide
  have key : (BitVec.ofInt 64 n &&& BitVec.ofInt 64 1).toNat = (n % ((2 ^ 64 : Nat) : Int)).toNat % 2 ^ 1 := by
    rw [BitVec.toNat_and, BitVec.toNat_ofInt, h3, Nat.and_two_pow_sub_one_eq_mod]
  show IntKind.i64.wrap ((BitVec.ofInt 64 n &&& BitVec.ofInt 64 1).toNat : Nat) = n % 2
  rw [key, IntKind.wrap_i64]
  omega
theorem bit_tmod (z : Int) : (bits .and .i64 z 1 = 1 ∧ (z.tmod 2 != 0) = true) ∨ (bits .and .i64 z 1 = 0 ∧ (z.tmod 2 != 0) = false) := by
  rw [i64_and1]
  have e : z.tmod 2 = 0 ↔ z % 2 = 0 := by
    constructor
    · intro h
      have := Int.dvd_of_tmod_eq_zero h
      omega
    · intro h
      exact Int.tmod_eq_zero_of_dvd (by omega)
  rcases (by omega : z % 2 = 1 ∨ z % 2 = 0) with h | h
  · left
    refine ⟨h, ?_⟩
    have : z.tmod 2 ≠ 0 := fun x => by have := e.1 x; omega
    simpa using this
  · right
    refine ⟨h, ?_⟩
    simpa using e.2 h

/-- Does the reference keep the content cached at this place? -/
def Rf.stays (F : Rf) (ks : List Int) (j : Nat) : Bool := (F.C j).isSome && (keptB ks (rank F.C j) && !F.bad (j / F.S))
/-- The reference's rack of which the first k places are restored. -/
def Rf.restTo (F : Rf) (ks : List Int) (k : Nat) : Rf := { F with L := fun j => if j < k ∧ F.stays ks j = true then F.rd j else F.L j, C := fun j => if j < k then none else F.C j, pw := -1, dead := false }

section
variable (F : Rf)
theorem restTo_L (ks : List Int) (k : Nat) : (F.restTo ks (k + 1)).L = atI (F.restTo ks k).L k (if F.stays ks k then F.rd k else F.L k) := by
  funext j
  show (if j < k + 1 ∧ F.stays ks j = true then F.rd j else F.L j) = if j = k then _ else if j < k ∧ F.stays ks j = true then F.rd j else F.L j
  by_cases e : j = k
  · subst e
    rw [if_pos rfl]
    by_cases h : F.stays ks j = true
    · rw [if_pos ⟨by omega, h⟩, if_pos h]
    · rw [if_neg (fun x => h x.2), if_neg h]
  · rw [if_neg e]
    by_cases h : j < k ∧ F.stays ks j = true
    · rw [if_pos ⟨by omega, h.2⟩, if_pos h]
    · rw [if_neg (fun x => h ⟨by omega, x.2⟩), if_neg h]
theorem restTo_C (ks : List Int) (k : Nat) : (F.restTo ks (k + 1)).C = atI (F.restTo ks k).C k none := by
  funext j
  show (if j < k + 1 then none else F.C j) = if j = k then none else if j < k then none else F.C j
  by_cases e : j = k
  · subst e; rw [if_pos (by omega), if_pos rfl]
  · rw [if_neg e]
    by_cases h : j < k
    · rw [if_pos (by omega), if_pos h]
    · rw [if_neg (by omega), if_neg h]
end

set_option maxRecDepth 100000 in
set_option maxHeartbeats 4000000 in
theorem rrestore (M : Nat → Prop) (L : RLay) (F : Rf) (w : World) (l c : Nat) (a : Option Addr) (ks : List Int) (h : RefAt w M L F) (hx : Ins w a l ks) (hxm : l = 0 ∨ ∀ b off, a = some ⟨b, off, none⟩ → ¬ L.M b) (hl : l ≤ 1000000000000) :
    Calls Tryz.prog 46 #[.pointer (some ⟨L.p, 0, none⟩), .slice a l c] w (RefPost M L (F.restTo ks (F.n * F.S)) w (.tuple #[])) := by
  obtain ⟨fl, fc, h⟩ := h
  obtain ⟨n, hn⟩ : ∃ n, Hid (n = F.n) := ⟨_, Lib.hid rfl⟩
  obtain ⟨S, hS⟩ : ∃ S, Hid (S = F.S) := ⟨_, Lib.hid rfl⟩
  obtain ⟨N, hN⟩ : ∃ N, Hid (N = F.n * F.S) := ⟨_, Lib.hid rfl⟩
  have few := h.few
  have fewS := h.fewS
  have hS1 : (1 : Int) ≤ (S : Int) := by have := h.one; rw [hS.out]; omega
  have hN1 : N ≤ 100000 := by
    have : F.n * F.S ≤ 17 * 4096 := Nat.mul_le_mul few fewS
    rw [hN.out]; omega
  have c6 := h.c6
  have c7 := h.c7
  have f6 := h.fp 6
  have f7 := h.fp 7
  have hfin : Hid (F.restTo ks (F.n * F.S) = F.restTo ks N) := by unfold Hid; rw [hN.out]
  go_enter Tryz.func46, Tryz.ntmps46
  go_wp2_with (fail)
  go_loopw [4, 5] (fun t i wr => ∃ k : Nat, k ≤ N ∧ i = .int .i64 k ∧ t = .int .i64 (rank F.C k) ∧ RefAt wr M L (F.restTo ks k) ∧ Turn L.M w wr) (fun _ i _ => N - (RowKit.intOf i).toNat)
  case atStart =>
    refine ⟨0, Nat.zero_le _, rfl, rfl, ⟨fl, fc, ?_⟩, ((turn_set w L.p 7 _).trans (turn_set _ L.p 6 _)).mono fun k e => e ▸ L.M_p⟩
    refine ((h.setDead false).setPw (-1) (by omega)).congr rfl rfl rfl rfl (fun j _ => ?_) (fun j _ => ?_) (fun _ _ => rfl) (fun _ _ => rfl) h.bigc
    · simp [Rf.restTo]
    · simp [Rf.restTo]
  case round =>
    obtain ⟨k, hk, rfl, rfl, ⟨fl2, fc2, hr2⟩, ht2⟩ := hrel
    have a1 : wr.cell? ⟨L.p, 1, none⟩ = some (.int .i64 S) := by have := hr2.c1; rwa [show (F.restTo ks k).S = S from hS.out.symm] at this
    have a2 : wr.cell? ⟨L.p, 2, none⟩ = some (.slice (some ⟨L.lb, 0, none⟩) N L.k1) := by have := hr2.c2; rwa [show (F.restTo ks k).n * (F.restTo ks k).S = N from hN.out.symm] at this
    have a3 : wr.cell? ⟨L.p, 3, none⟩ = some (.slice (some ⟨L.cb, 0, none⟩) N L.k2) := by have := hr2.c3; rwa [show (F.restTo ks k).n * (F.restTo ks k).S = N from hN.out.symm] at this
    have a4 : wr.cell? ⟨L.p, 4, none⟩ = some (.slice (some ⟨L.bb, 0, none⟩) n L.k3) := by have := hr2.c4; rwa [show (F.restTo ks k).n = n from hn.out.symm] at this
    have hxr := ins_turn' hx ht2 hxm
    clear c6 c7 f6 f7 h
    by_cases hlt : k < N
    · have hkN : k < (F.restTo ks k).n * (F.restTo ks k).S := by rw [show (F.restTo ks k).n * (F.restTo ks k).S = N from hN.out.symm]; omega
      have l0 := hr2.cl.cell hkN
      have q0 := hr2.cc.cell hkN
      have fl0 := hr2.cl.free k
      have fq0 := hr2.cc.free k
      have A := hr2.apart
      have n1 := A.pl
      have n2 := Ne.symm A.pl
      have n3 := A.lc
      have n4 := Ne.symm A.lc
      have i0 : (0 : Int) ≤ (k : Int) := Int.natCast_nonneg _
      have i1 : (k : Int) < (N : Int) := by omega
      have hC := hr2.cach k hkN
      have eC : (F.restTo ks k).C k = F.C k := by show (if k < k then none else F.C k) = _; rw [if_neg (by omega)]
      have eL : (F.restTo ks k).L k = F.L k := by show (if k < k ∧ F.stays ks k = true then F.rd k else F.L k) = _; rw [if_neg (by omega)]
      rw [eC] at hC
      have hrk := rank_le F.C k
      have hrs := rank_succ F.C k
      obtain ⟨vl, hvl⟩ : ∃ v, Hid (v = fl2 k) := ⟨_, Lib.hid rfl⟩
      rw [← hvl.out] at l0
      rcases hC with ⟨e0, e1⟩ | ⟨zs, e0, hsl⟩
      · rw [e1] at q0
        have hrs' : Hid (rank F.C (k + 1) = rank F.C k) := by unfold Hid; rw [hrs, e0]; rfl
        have hst : F.stays ks k = false := by simp [Rf.stays, e0]
        have hnext : Hid (RefD wr M L (F.restTo ks (k + 1)) fl2 fc2) := by
          refine hr2.congr rfl rfl rfl rfl (fun j _ => ?_) (fun j _ => ?_) (fun _ _ => rfl) (fun _ _ => rfl) hr2.bigc
          · rw [restTo_L F]; unfold atI
            by_cases e : j = k
            · subst e; rw [if_pos rfl, eL, hst]; rfl
            · rw [if_neg e]
          · rw [restTo_C F]; unfold atI
            by_cases e : j = k
            · subst e; rw [if_pos rfl, eC, e0]
            · rw [if_neg e]
        clear hr2 e0 e1 eC eL A hvl hrs hst hx hxr
        go_wp2_with (fail)
        go_roundw
        case rel => exact ⟨k + 1, by omega, by go_num, by rw [hrs'.out], ⟨fl2, fc2, hnext.out⟩, ht2⟩
        case measure => simp [RowKit.intOf]; omega
      · obtain ⟨g, cg, e1, hg, hy⟩ := hsl
        rw [e1] at q0
        have hrs' : Hid (rank F.C (k + 1) = rank F.C k + 1) := by unfold Hid; rw [hrs, e0]; rfl
        have hd2 : ∀ nq, RefD (wr.drewN nq) M L (F.restTo ks k) fl2 fc2 := fun nq => hr2.keep (Turn.of_below (M := fun _ => False) (below_drewN (Below.refl _ _) nq)) (fun _ x => x.elim) (fun _ _ x => x)
        have hyes : F.stays ks k = true → Hid (∀ nq, RefAt (((wr.drewN nq).drew.setCell ⟨L.lb, k, none⟩ (.slice (some ⟨g, 0, none⟩) 64 cg)).setCell ⟨L.cb, k, none⟩ (.slice none 0 0)) M L (F.restTo ks (k + 1)) ∧ Turn L.M w (((wr.drewN nq).drew.setCell ⟨L.lb, k, none⟩ (.slice (some ⟨g, 0, none⟩) 64 cg)).setCell ⟨L.cb, k, none⟩ (.slice none 0 0))) := by
          intro hst nq
          have hd3 : RefD (wr.drewN nq).drew M L (F.restTo ks k) fl2 fc2 := (hd2 nq).keep (turn_drew (fun _ => False) _) (fun _ x => x.elim) (fun _ _ x => x)
          have h1 := hd3.setL hkN (.slice (some ⟨g, 0, none⟩) 64 cg) zs ⟨g, cg, rfl, hg, ⟨hy.len, hy.small, hy.place⟩⟩
          have h2 := h1.setC hkN (.slice none 0 0) none (.inl ⟨rfl, rfl⟩)
          refine ⟨⟨_, _, h2.congr rfl rfl rfl rfl (fun j _ => ?_) (fun j _ => ?_) (fun _ _ => rfl) (fun _ _ => rfl) hr2.bigc⟩, ?_⟩
          · rw [restTo_L F, if_pos hst, show F.rd k = zs by simp [Rf.rd, e0]]
          · rw [restTo_C F]
          · exact (((ht2.trans (Turn.of_below (below_drewN (Below.refl _ _) nq))).trans (turn_drew _ _)).trans ((turn_set _ L.lb k _).mono fun j e => e ▸ L.M_lb)).trans ((turn_set _ L.cb k _).mono fun j e => e ▸ L.M_cb)
        have hno : F.stays ks k = false → Hid (∀ nq, RefAt ((wr.drewN nq).setCell ⟨L.cb, k, none⟩ (.slice none 0 0)) M L (F.restTo ks (k + 1)) ∧ Turn L.M w ((wr.drewN nq).setCell ⟨L.cb, k, none⟩ (.slice none 0 0))) := by
          intro hst nq
          have h2 := (hd2 nq).setC hkN (.slice none 0 0) none (.inl ⟨rfl, rfl⟩)
          refine ⟨⟨_, _, h2.congr rfl rfl rfl rfl (fun j _ => ?_) (fun j _ => ?_) (fun _ _ => rfl) (fun _ _ => rfl) hr2.bigc⟩, ?_⟩
          · rw [restTo_L F, hst]; unfold atI
            by_cases e : j = k
            · subst e; rw [if_pos rfl]; exact eL.symm
            · rw [if_neg e]
          · rw [restTo_C F]
          · exact (ht2.trans (Turn.of_below (below_drewN (Below.refl _ _) nq))).trans ((turn_set _ L.cb k _).mono fun j e => e ▸ L.M_cb)
        obtain ⟨d, hd⟩ : ∃ d : Nat, (k : Int) / (S : Int) = (d : Int) := ⟨k / S, by simp⟩
        have hkb2 : (k : Int) ≤ 100000 := by omega
        have hdk : d = k / S := by
          have h0 : ((k / S : Nat) : Int) = (d : Int) := by rw [Int.natCast_ediv]; exact hd
          omega
        have hS0 : ¬ S = 0 := by omega

        have hd' : (k : Int).tdiv (S : Int) = (d : Int) := by rw [← hd]; exact Int.tdiv_eq_ediv_of_nonneg (by omega)
        have hdn : d < n := by
          rw [hdk, hn.out]
          have h1 : k < F.n * S := by rw [hS.out, ← hN.out]; exact hlt
          exact (Nat.div_lt_iff_lt_mul (by omega)).2 h1
        have b0 := hr2.cb.cell (k := d) (by rw [show (F.restTo ks k).n = n from hn.out.symm]; exact hdn)
        have hst : F.stays ks k = (keptB ks (rank F.C k) && !F.bad d) := by simp [Rf.stays, e0, hdk, ← hS.out]
        have i2 : (0 : Int) ≤ (d : Int) := Int.natCast_nonneg _
        have i3 : (d : Int) < (n : Int) := by omega
        have hn17 : (n : Int) ≤ 17 := by have := few; rw [← hn.out] at this; omega
        have hdw : IntKind.i64.wrap (d : Int) = (d : Int) := IntWalk.i64_in _ (by omega)
        obtain ⟨r, hr⟩ : ∃ r, Hid (r = rank F.C k) := ⟨_, Lib.hid rfl⟩
        rw [← hr.out] at hst hrk ⊢
        have hbd : (F.restTo ks k).bad d = F.bad d := rfl
        simp only [hbd] at b0
        generalize hbv : F.bad d = bv at b0 hst
        clear hr2 e0 e1 eC eL A hvl hrs hbv hbd hdk hd2 hy
        by_cases hl0 : l = 0
        · have hno' := hno (by rw [hst]; simp [keptB, hxr.1, hl0])
          subst hl0
          clear hst hyes hno hx hxr hxm
          go_wp2_with (fail)
          go_quiet (fail)
          go_wp2_with (fail)
          go_roundw
          case rel => exact ⟨k + 1, by omega, by go_num, by rw [hrs'.out, ← hr.out]; go_num, (hno'.out nq).1, (hno'.out nq).2⟩
          case measure => simp [RowKit.intOf]; omega
        · rcases hxr.2 with h0 | ⟨bk, ok, rfl, _, hck⟩
          · omega
          have hm : r % l < l := Nat.mod_lt _ (by omega)
          have hcz := hck (r % l) hm
          obtain ⟨z, hz⟩ : ∃ z, z = ks.getD (r % l) 0 := ⟨_, rfl⟩
          rw [← hz] at hcz
          have hkb : keptB ks r = (z.tmod 2 != 0) := by
            unfold keptB
            rw [hxr.1, ← hz, show decide (0 < l) = true by simp; omega, Bool.true_and]
          rw [hkb] at hst
          obtain ⟨m, hmm⟩ : ∃ m : Nat, (r : Int) % (l : Int) = (m : Int) := ⟨r % l, by simp⟩
          have hmr : m = r % l := by
            have h0 : ((r % l : Nat) : Int) = (m : Int) := by rw [Int.natCast_emod]; exact hmm
            omega
          have hmt : (r : Int).tmod (l : Int) = (m : Int) := by rw [← hmm]; exact Int.tmod_eq_emod_of_nonneg (by omega)
          rw [← hmr] at hcz
          have i4 : (0 : Int) ≤ (m : Int) := Int.natCast_nonneg _
          have i5 : (m : Int) < (l : Int) := by omega
          have i6 : (1 : Int) ≤ (l : Int) := by omega
          have hlb : decide (0 < l) = true := by simp; omega
          rcases bit_tmod z with ⟨hb1, hb2⟩ | ⟨hb1, hb2⟩
          · rw [hb2] at hst
            cases bv with
            | true =>
              have hno' := hno (by rw [hst]; rfl)
              clear hst hyes hno hx hxr hxm hck hz hkb hb2 hmr hm
              go_wp2_with (fail)
              go_quiet (fail)
              go_wp2_with (fail)
              go_roundw
              case rel => exact ⟨k + 1, by omega, by go_num, by rw [hrs'.out, ← hr.out]; go_num, (hno'.out nq).1, (hno'.out nq).2⟩
              case measure => simp [RowKit.intOf]; omega
            | false =>
              have hyes' := hyes (by rw [hst]; rfl)
              clear hst hyes hno hx hxr hxm hck hz hkb hb2 hmr hm
              go_wp2_with (fail)
              go_quiet (fail)
              go_wp2_with (fail)
              have hyq := hyes'.out nq
              have d2 : (wr.drewN nq).cell? ⟨L.p, 2, none⟩ = some (.slice (some ⟨L.lb, 0, none⟩) N L.k1) := by simpa using a2
              have d3 : (wr.drewN nq).cell? ⟨L.p, 3, none⟩ = some (.slice (some ⟨L.cb, 0, none⟩) N L.k2) := by simpa using a3
              have dl : (wr.drewN nq).cell? ⟨L.lb, k, none⟩ = some vl := by simpa using l0
              have dq : (wr.drewN nq).cell? ⟨L.cb, k, none⟩ = some (.slice (some ⟨g, 0, none⟩) 64 cg) := by simpa using q0
              have dfl : (wr.drewN nq).frozen? ⟨L.lb, k, none⟩ = false := by simpa using fl0
              have dfq : (wr.drewN nq).frozen? ⟨L.cb, k, none⟩ = false := by simpa using fq0
              clear hyes' a1 a2 a3 a4 l0 q0 fl0 fq0 b0 ht2
              generalize wr.drewN nq = wd at *
              go_still_tail 13, (by kernel_rfl)
              change wpList _ _ _ _ _ wd.drew
              go_wp2_with (fail)
              go_roundw
              case rel => exact ⟨k + 1, by omega, by go_num, by rw [hrs'.out, ← hr.out]; go_num, hyq.1, hyq.2⟩
              case measure => simp [RowKit.intOf]; omega
          · have hno' := hno (by rw [hst, hb2]; rfl)
            clear hst hyes hno hx hxr hxm hck hz hkb hb2 hmr hm
            go_wp2_with (fail)
            go_quiet (fail)
            go_wp2_with (fail)
            go_roundw
            case rel => exact ⟨k + 1, by omega, by go_num, by rw [hrs'.out, ← hr.out]; go_num, (hno'.out nq).1, (hno'.out nq).2⟩
            case measure => simp [RowKit.intOf]; omega
    · obtain rfl : k = N := by omega
      clear hx hxr
      go_wp2_with (fail)
      go_end0
      rw [hfin.out]
      exact ⟨rfl, ⟨fl2, fc2, hr2⟩, ht2⟩

end Go.Proofs.YtciddoeeiamndaaGreat

/-
  The reference's Load, by contract.
-/
namespace Go.Proofs.YtciddoeeiamndaaGreat
open Go.RowKit Go.Maps

theorem bys_turn' {M : Nat → Prop} {w w' : World} {a : Option Addr} {n : Nat} {zs : List Int} (h : Bys w a n zs) (ht : Turn M w w') (hm : n = 0 ∨ ∀ b off, a = some ⟨b, off, .none⟩ → ¬ M b) : Bys w' a n zs := by
  rcases hm with rfl | hm
  · exact ⟨h.len, h.small, .inl rfl⟩
  · exact bys_turn h ht hm

/-- The reference's rack of which k sectors from place B on are loaded. -/
def Rf.loaded (F : Rf) (B : Nat) (x : List Int) (k : Nat) : Rf := { F with L := fun j => if B ≤ j ∧ j < B + k then sec x (j - B) else F.L j, C := fun j => if B ≤ j ∧ j < B + k then none else F.C j }
section
variable (F : Rf)
theorem loaded_start (B : Nat) (x : List Int) : F.loaded B x 0 = F := by
  have : ∀ j, ¬ (B ≤ j ∧ j < B + 0) := fun j => by omega
  unfold Rf.loaded
  simp only [this, if_false]
theorem loaded_L (B : Nat) (x : List Int) (k : Nat) : (F.loaded B x (k + 1)).L = atI (F.loaded B x k).L (B + k) (sec x k) := by
  funext j
  show (if B ≤ j ∧ j < B + (k + 1) then sec x (j - B) else F.L j) = if j = B + k then sec x k else if B ≤ j ∧ j < B + k then sec x (j - B) else F.L j
  by_cases e : j = B + k
  · subst e; rw [if_pos (by omega), if_pos rfl, show B + k - B = k by omega]
  · rw [if_neg e]
    by_cases e2 : B ≤ j ∧ j < B + k
    · rw [if_pos (by omega), if_pos e2]
    · rw [if_neg (by omega), if_neg e2]
theorem loaded_C (B : Nat) (x : List Int) (k : Nat) : (F.loaded B x (k + 1)).C = atI (F.loaded B x k).C (B + k) none := by
  funext j
  show (if B ≤ j ∧ j < B + (k + 1) then none else F.C j) = if j = B + k then none else if B ≤ j ∧ j < B + k then none else F.C j
  by_cases e : j = B + k
  · subst e; rw [if_pos (by omega), if_pos rfl]
  · rw [if_neg e]
    by_cases e2 : B ≤ j ∧ j < B + k
    · rw [if_pos (by omega), if_pos e2]
    · rw [if_neg (by omega), if_neg e2]
end

end Go.Proofs.YtciddoeeiamndaaGreat

/-
  The reference's New, by contract.
-/
namespace Go.Proofs.YtciddoeeiamndaaGreat
open Go.RowKit Go.Maps

theorem infoS : (Tryz.prog.info? 49).map (fun i => (i.zero, i.size, i.bytes)) = some (some (.slice none 0 0), 1, 24) := by kernel_rfl
theorem infoB : (Tryz.prog.info? 4).map (fun i => (i.zero, i.size, i.bytes)) = some (some (.bool false), 1, 1) := by kernel_rfl
theorem infoI : (Tryz.prog.info? 3).map (fun i => (i.zero, i.size, i.bytes)) = some (some (.int .i64 0), 1, 8) := by kernel_rfl

/-- 'make([]byte, 64)' as it runs. -/
theorem mkn (w : World) (n : Nat) (hn : n ≤ 1000) : ∃ w', Sem.run Tryz.prog (Instr.makeSlice 49 (.int .i64 (n : Int)) (.int .i64 (n : Int))) w = Result.ok (.slice (some ⟨w.heap.size, 0, none⟩) n n) w' ∧ Blk w' w.heap.size (List.replicate n 0) ∧ Below w.heap.size w w' := by
  obtain ⟨i0, hi, hz0, hz1, hz2⟩ := info_parts info8
  obtain ⟨w', hrun, hown, hgrow⟩ := run_make_full (P := Tryz.prog) (w := w) w.heap.size 49 5 i0 (.int .u8 0) 1 Tryz.underlying49 hi hz0 hz1 .i64 .i64 n (by rw [hz2]; omega) (by unfold maxLen; omega) (Nat.le_refl _)
  refine ⟨w', hrun, ⟨?_⟩, (Below.refl _ _).grown hgrow (Nat.le_refl _) (fun k h => by cases h)⟩
  rcases hown.2 with ⟨h', _⟩ | ⟨g, cap, cur, h', _, hh, _, _, hsz, htake⟩
  · simp at h'
  · simp only [Value.slice.injEq, Option.some.injEq, Addr.mk.injEq, and_true, true_and] at h'
    obtain ⟨rfl, rfl⟩ := h'
    have hc : cur = ints (List.replicate n 0) := by
      apply Array.ext'
      rw [List.take_of_length_le (by rw [Array.length_toList, hsz]; exact Nat.le_refl _)] at htake
      rw [htake, show (Value.int IntKind.u8 0).cells = #[Value.int .u8 0] from rfl, Nat.mul_one, toList_madeCells_one]
      simp [ints]
    rw [hh, hc]
theorem mk64 (w : World) : ∃ w', Sem.run Tryz.prog (Instr.makeSlice 49 (.int .i64 64) (.int .i64 64)) w = Result.ok (.slice (some ⟨w.heap.size, 0, none⟩) 64 64) w' ∧ Blk w' w.heap.size (List.replicate 64 0) ∧ Below w.heap.size w w' := mkn w 64 (by omega)

/-- The four lists of the reference's rack while it is made. -/
def tyN (i : Nat) : TypeId := if i < 2 then 49 else if i = 2 then 4 else 3
structure NewD (w : World) (B p n S : Nat) (k : Nat → Nat) (v : Nat → Value) (xs : Nat → List Value) : Prop where
  row : w.heap[p]? = some (.cells #[.int .i64 n, .int .i64 S, v 0, v 1, v 2, v 3, .int .i64 (-1), .bool false] 35 (0, 0))
  own : ∀ i, i < 4 → w.ownsRow B (tyN i) 1 (v i) (k i) (xs i)
  ne : ∀ i j, i < 4 → j < 4 → i ≠ j → ∀ g, (v i).ownBlock = some g → (v j).ownBlock ≠ some g
  el : ∀ j, j < k 0 → ∃ g, (xs 0)[j]? = some (.slice (some ⟨g, 0, none⟩) 64 64) ∧ Blk w g (List.replicate 64 0) ∧ B ≤ g ∧ ∀ i, i < 4 → (v i).ownBlock ≠ some g
  low : p < B

theorem NewD.c {w : World} {B p n S : Nat} {k : Nat → Nat} {v : Nat → Value} {xs : Nat → List Value} (h : NewD w B p n S k v xs) (i : Nat) (hi : i < 4) : w.cell? ⟨p, 2 + i, none⟩ = some (v i) := by
  rw [cell_of_row w _ _ _ _ (0, 0) h.row]
  rcases (by omega : i = 0 ∨ i = 1 ∨ i = 2 ∨ i = 3) with rfl | rfl | rfl | rfl <;> rfl
theorem NewD.f {w : World} {B p n S : Nat} {k : Nat → Nat} {v : Nat → Value} {xs : Nat → List Value} (h : NewD w B p n S k v xs) (i : Nat) : w.frozen? ⟨p, i, none⟩ = false := frozen_of_row w _ i _ _ h.row

theorem grown_set {w w' : World} {r : Option Nat} (h : w.grownBy w' r) (b i : Nat) (u : Value) (k : Nat) (hk : k < w.heap.size) (hb : k ≠ b) (hr : some k ≠ r) : (w'.setCell ⟨b, i, none⟩ u).heap[k]? = w.heap[k]? :=
  ((turn_set w' b i u).block k (Nat.lt_of_lt_of_le hk h.size) hb).trans (h.block k hk hr)

theorem own_set {w : World} {B : Nat} {t : TypeId} {v : Value} {n : Nat} {xs : List Value} (h : w.ownsRow B t 1 v n xs) (p i : Nat) (u : Value) (hp : p < B) : (w.setCell ⟨p, i, none⟩ u).ownsRow B t 1 v n xs :=
  h.kept (row := some p) ⟨rfl, rfl, rfl, (turn_set w p i u).size, fun k hk hne => (turn_set w p i u).block k hk fun e => hne (by rw [e])⟩ (by
    cases e : v.ownBlock with
    | none => exact .inl rfl
    | some g => right; intro x; cases x; have := (h.lt p e).1; omega)

theorem NewD.app {w w' : World} {B p n S : Nat} {k : Nat → Nat} {v : Nat → Value} {xs : Nat → List Value} (h : NewD w B p n S k v xs) (i : Nat) (hi : i < 4) (u : Value) (g cap : Nat)
    (hown : w'.ownsRow B (tyN i) 1 (.slice (some ⟨g, 0, none⟩) (k i + 1) cap) (k i + 1) (xs i ++ [u])) (hgrow : w.grownBy w' (v i).ownBlock) (hl : (v i).ownBlock = some g ∨ g = w.heap.size)
    (hu : i = 0 → ∃ e, u = .slice (some ⟨e, 0, none⟩) 64 64 ∧ Blk w e (List.replicate 64 0) ∧ B ≤ e ∧ ∀ j, j < 4 → (v j).ownBlock ≠ some e) :
    NewD (w'.setCell ⟨p, 2 + i, none⟩ (.slice (some ⟨g, 0, none⟩) (k i + 1) cap)) B p n S (atI k i (k i + 1)) (atI v i (.slice (some ⟨g, 0, none⟩) (k i + 1) cap)) (atI xs i (xs i ++ [u])) := by
  have hp := lt_of_block h.row
  have hpo : some p ≠ (v i).ownBlock := fun e => by have := ((h.own i hi).lt p e.symm).1; have := h.low; omega
  have hgn : ∀ j, j < 4 → j ≠ i → (v j).ownBlock ≠ some g := by
    intro j hj hji e
    rcases hl with hl | hl
    · exact h.ne j i hj hi hji g e hl
    · have := ((h.own j hj).lt g e).2; omega
  have hrow' : w'.heap[p]? = _ := (hgrow.block p hp hpo).trans h.row
  refine ⟨?_, fun j hj => ?_, fun a b ha hb hab x hx => ?_, fun j hj => ?_, h.low⟩
  · rw [cells_set hrow']
    rcases (by omega : i = 0 ∨ i = 1 ∨ i = 2 ∨ i = 3) with rfl | rfl | rfl | rfl <;> rfl
  · by_cases e : j = i
    · subst e
      simp only [atI, if_pos]
      exact own_set hown p _ _ h.low
    · simp only [atI, if_neg e]
      refine own_set ((h.own j hj).kept hgrow ?_) p _ _ h.low
      cases eo : (v j).ownBlock with
      | none => exact .inl rfl
      | some x => exact .inr fun x' => h.ne j i hj hi e x eo x'.symm
  · by_cases ea : a = i
    · subst ea
      simp only [atI, if_pos, if_neg (Ne.symm hab)] at hx ⊢
      simp [Value.ownBlock] at hx
      subst hx
      exact hgn b hb (Ne.symm hab)
    · by_cases eb : b = i
      · subst eb
        simp only [atI, if_pos, if_neg ea] at hx ⊢
        intro e2
        simp [Value.ownBlock] at e2
        subst e2
        exact hgn a ha ea hx
      · simp only [atI, if_neg ea, if_neg eb] at hx ⊢
        exact h.ne a b ha hb hab x hx
  · have keep : ∀ e, Blk w e (List.replicate 64 0) → B ≤ e → (∀ b, b < 4 → (v b).ownBlock ≠ some e) → Blk (w'.setCell ⟨p, 2 + i, none⟩ (.slice (some ⟨g, 0, none⟩) (k i + 1) cap)) e (List.replicate 64 0) ∧ B ≤ e ∧ ∀ b, b < 4 → (atI v i (.slice (some ⟨g, 0, none⟩) (k i + 1) cap) b).ownBlock ≠ some e := by
      intro e hb hB hne
      refine ⟨⟨(grown_set hgrow p _ _ e hb.lt (by have := h.low; omega) (fun x => hne i hi x.symm)).trans hb.row⟩, hB, fun b hb4 => ?_⟩
      by_cases eb : b = i
      · subst eb
        simp only [atI, if_pos]
        intro x
        simp [Value.ownBlock] at x
        subst x
        rcases hl with hl | hl
        · exact hne b hi hl
        · have := hb.lt; omega
      · simp only [atI, if_neg eb]
        exact hne b hb4
    have hlen := (h.own 0 (by omega)).1
    by_cases e0 : i = 0
    · subst e0
      simp only [atI, if_pos] at hj ⊢
      by_cases hjk : j < k 0
      · obtain ⟨e, he, hb, hB, hne⟩ := h.el j hjk
        exact ⟨e, by rw [List.getElem?_append_left (by omega)]; exact he, keep e hb hB hne⟩
      · obtain ⟨e, he, hb, hB, hne⟩ := hu rfl
        refine ⟨e, ?_, keep e hb hB hne⟩
        rw [List.getElem?_append_right (by omega), he, show j - (xs 0).length = 0 by omega]
        rfl
    · simp only [atI, if_neg (Ne.symm e0)] at hj ⊢
      obtain ⟨e, he, hb, hB, hne⟩ := h.el j hj
      exact ⟨e, he, keep e hb hB hne⟩

theorem NewD.below {w w' : World} {B p n S : Nat} {k : Nat → Nat} {v : Nat → Value} {xs : Nat → List Value} (h : NewD w B p n S k v xs) (hb : Below w.heap.size w w') : NewD w' B p n S k v xs :=
  ⟨(hb.block p (lt_of_block h.row)).trans h.row, fun i hi => (h.own i hi).kept (row := none) ⟨hb.os, hb.tape, hb.output, hb.size, fun k hk _ => hb.block k hk⟩ (by cases (v i).ownBlock <;> simp), h.ne,
    fun j hj => by obtain ⟨g, h1, h2, h3⟩ := h.el j hj; exact ⟨g, h1, ⟨(hb.block g h2.lt).trans h2.row⟩, h3⟩, h.low⟩

theorem NewD.kk2 {w : World} {B p n S N k : Nat} {v : Nat → Value} {xs : Nat → List Value} (h : NewD w B p n S (atI (atI (fun i => if i < 2 then N else k) 2 (k + 1)) 3 (k + 1)) v xs) : NewD w B p n S (fun i => if i < 2 then N else k + 1) v xs := by
  have e : ∀ i, i < 4 → atI (atI (fun i => if i < 2 then N else k) 2 (k + 1)) 3 (k + 1) i = if i < 2 then N else k + 1 := by
    intro i hi
    rcases (by omega : i = 0 ∨ i = 1 ∨ i = 2 ∨ i = 3) with rfl | rfl | rfl | rfl <;> rfl
  exact ⟨h.row, fun i hi => by have := h.own i hi; rwa [e i hi] at this, h.ne, fun j hj => h.el j (by rw [e 0 (by omega)]; exact hj), h.low⟩
theorem NewD.turnq {w w' : World} {B p n S q : Nat} {k : Nat → Nat} {v : Nat → Value} {xs : Nat → List Value} (h : NewD w B p n S k v xs) (ht : Turn (· = q) w w') (hq : q < B ∧ q ≠ p) : NewD w' B p n S k v xs :=
  ⟨(ht.block p (lt_of_block h.row) (Ne.symm hq.2)).trans h.row, fun i hi => (h.own i hi).kept (row := some q) ⟨ht.os, ht.tape, ht.output, ht.size, fun k hk hne => ht.block k hk fun e => hne (by rw [e])⟩ (by
      cases e : (v i).ownBlock with
      | none => exact .inl rfl
      | some g => right; intro x; cases x; have := ((h.own i hi).lt q e).1; omega), h.ne,
    fun j hj => by obtain ⟨g, h1, h2, h3, h4⟩ := h.el j hj; exact ⟨g, h1, ⟨(ht.block g h2.lt (by have := hq.1; omega)).trans h2.row⟩, h3, h4⟩, h.low⟩
theorem NewD.form {w : World} {B p n S : Nat} {k : Nat → Nat} {v : Nat → Value} {xs : Nat → List Value} (h : NewD w B p n S k v xs) (i : Nat) (hi : i < 4) (hk : 0 < k i) : ∃ g c, v i = .slice (some ⟨g, 0, none⟩) (k i) c := by
  rcases (h.own i hi).2 with ⟨_, h0⟩ | ⟨g, cap, cur, e, _⟩
  · omega
  · exact ⟨g, cap, e⟩
/-- What the reference's New answers. -/
def RNew (n S : Nat) (w : World) (e : Ending) (w' : World) : Prop := ∃ (v : Nat → Value) (xs : Nat → List Value),
  e = .returned (.tuple #[.agg #[.int .i64 n, .int .i64 S, v 0, v 1, v 2, v 3, .int .i64 (-1), .bool false], .int .i64 0]) ∧ NewD w' (w.heap.size + 2) (w.heap.size + 1) n S (fun i => if i < 2 then n * S else n) v xs ∧
  xs 1 = List.replicate (n * S) (.slice none 0 0) ∧ xs 2 = List.replicate n (.bool false) ∧ xs 3 = List.replicate n (.int .i64 (-1)) ∧ Below w.heap.size w w'
theorem NewD.kk {w : World} {B p n S k : Nat} {v : Nat → Value} {xs : Nat → List Value} (h : NewD w B p n S (atI (atI (fun i => if i < 2 then k else 0) 0 (k + 1)) 1 (k + 1)) v xs) : NewD w B p n S (fun i => if i < 2 then k + 1 else 0) v xs := by
  have e : atI (atI (fun i => if i < 2 then k else 0) 0 (k + 1)) 1 (k + 1) = fun i => if i < 2 then k + 1 else 0 := by
    funext i
    unfold atI
    by_cases e1 : i = 1
    · subst e1; rfl
    · by_cases e0 : i = 0
      · subst e0; rfl
      · rw [if_neg e1, if_neg e0]; dsimp only; rw [if_neg (by omega), if_neg (by omega)]
  rwa [e] at h

set_option maxRecDepth 100000 in
set_option maxHeartbeats 4000000 in
theorem rnew_ok (n S : Nat) (w : World) (h1 : 1 ≤ n) (h2 : n ≤ 17) (h3 : 1 ≤ S) (h4 : S ≤ 4096) :
    Calls Tryz.prog 8 #[.int .i64 n, .int .i64 S] w (RNew n S w) := by
  obtain ⟨N, hN⟩ : ∃ N, Hid (N = n * S) := ⟨_, Lib.hid rfl⟩
  have eN : (n : Int) * (S : Int) = (N : Int) := by rw [hN.out]; simp
  have hn17 : (n : Int) ≤ 17 := by omega
  have hN1 : N ≤ 100000 := by
    have : n * S ≤ 17 * 4096 := Nat.mul_le_mul h2 h4
    rw [hN.out]; omega
  have x1 : decide ((n : Int) < 1) = false := by simp; omega
  have x2 : decide (17 < (n : Int)) = false := by simp; omega
  have x3 : decide ((S : Int) < 1) = false := by simp; omega
  have x4 : decide (4096 < (S : Int)) = false := by simp; omega
  obtain ⟨i0, hi, hz0, hz1, hz2⟩ := info_parts infoS
  obtain ⟨iB, bi, bz0, bz1, bz2⟩ := info_parts infoB
  obtain ⟨iI, ii, iz0, iz1, iz2⟩ := info_parts infoI
  obtain ⟨q, hq⟩ : ∃ q, Hid (q = w.heap.size) := ⟨_, Lib.hid rfl⟩
  obtain ⟨wz, hwz⟩ : ∃ wz, Hid (wz = w.alloc (Obj.cells #[Value.int IntKind.i64 0, Value.int IntKind.i64 0, Value.slice none 0 0, Value.slice none 0 0, Value.slice none 0 0, Value.slice none 0 0, Value.int IntKind.i64 0, Value.bool false] 35)) := ⟨_, Lib.hid rfl⟩
  have hzs : wz.heap.size = w.heap.size + 1 := by rw [hwz.out]; simp
  have hzq : Hid (wz.heap[w.heap.size]? = some (Obj.cells #[Value.int IntKind.i64 0, Value.int IntKind.i64 0, Value.slice none 0 0, Value.slice none 0 0, Value.slice none 0 0, Value.slice none 0 0, Value.int IntKind.i64 0, Value.bool false] 35 (0, 0))) := by
    unfold Hid; rw [hwz.out]; exact heap_alloc_new w _
  go_enter Tryz.func8, Tryz.ntmps8
  go_wp2_with (fail)
  go_loopw [7] (fun t wr => ∃ (k : Nat) (v : Nat → Value) (xs : Nat → List Value), k ≤ N ∧ t = .int .i64 k ∧ NewD wr (w.heap.size + 2) (w.heap.size + 1) n S (fun i => if i < 2 then k else 0) v xs ∧ xs 1 = List.replicate k (.slice none 0 0) ∧ v 2 = .slice none 0 0 ∧ v 3 = .slice none 0 0 ∧ Below (w.heap.size + 1) wz wr) (fun t _ => N - (RowKit.intOf t).toNat)
  case atStart =>
    refine ⟨0, fun _ => .slice none 0 0, fun _ => [], Nat.zero_le _, rfl, ⟨?_, fun i _ => ⟨by simp, .inl ⟨rfl, by simp⟩⟩, (fun i j _ _ _ g e => by simp [Value.ownBlock] at e), (fun j hj => by simp at hj), by omega⟩, rfl, rfl, rfl, by rw [← hwz.out]; exact (Below.refl _ _).alloc (by omega) _⟩
    have := heap_alloc_new (w.alloc (Obj.cells #[Value.int IntKind.i64 0, Value.int IntKind.i64 0, Value.slice none 0 0, Value.slice none 0 0, Value.slice none 0 0, Value.slice none 0 0, Value.int IntKind.i64 0, Value.bool false] 35)) (Obj.cells #[Value.int IntKind.i64 n, Value.int IntKind.i64 S, Value.slice none 0 0, Value.slice none 0 0, Value.slice none 0 0, Value.slice none 0 0, Value.int IntKind.i64 (-1), Value.bool false] 35)
    simpa using this
  case round =>
    obtain ⟨k, v, xs, hk, rfl, hD, hx1, hv2, hv3, hbel⟩ := hrel
    have c2 := hD.c 0 (by omega)
    have c3 := hD.c 1 (by omega)
    have f2 := hD.f 2
    have f3 := hD.f 3
    simp only [Nat.add_zero] at c2
    by_cases hlt : k < N
    · obtain ⟨w3, hmk, hb3, hl3⟩ := mk64 wr.drew
      have hl3' : Below wr.heap.size wr w3 := undrew hl3
      have hD3 := hD.below hl3'
      have hw3 : wr.heap.size < w3.heap.size := hb3.lt
      change Sem.run _ _ _ = Result.ok (Value.slice (some ⟨wr.heap.size, 0, none⟩) 64 64) w3 at hmk
      have hbw : Blk w3 wr.heap.size (List.replicate 64 0) := hb3
      obtain ⟨lit, hlit⟩ : ∃ lit, lit = Obj.cells #[Value.slice (some ⟨wr.heap.size, 0, none⟩) 64 64] 49 := ⟨_, rfl⟩
      have hla : Below w3.heap.size w3 (w3.alloc lit) := (Below.refl _ _).alloc (Nat.le_refl _) _
      have hDa := hD3.below hla
      have hown := hDa.own 0 (by omega)
      have d2 := hD3.c 0 (by omega)
      have ca := hDa.c 0 (by omega)
      simp only [Nat.add_zero] at d2 ca
      have hrow := hDa.row
      have hpl := lt_of_block hDa.row
      have hpo : some (w.heap.size + 1) ≠ (v 0).ownBlock := fun e => by have := (hown.lt _ e.symm).1; omega
      rw [hlit] at hla hDa hown ca hrow hpl
      clear hb3 hl3 c3 f3
      go_wp2_with (fail)
      go_region_law ((refine step_append_lies _ (by rfl) (.tmp 35) (.tmp 37) 31 (by rfl) (w.heap.size + 2) 49 i0 _ 1 24 Tryz.underlying31 hi hz0 hz1 hz2 rfl (by omega) (v 0) k (xs 0) (by rfl) hown ⟨w3.heap.size, 0, none⟩ 1 1 [Value.slice (some ⟨wr.heap.size, 0, none⟩) 64 64] (by rfl) (by rfl) (World.news_of_block (heap_alloc_new w3 _)) (by simp [Value.oneCell']) (by omega) (by unfold maxLen; omega) (by omega) (by have := hbel.size; simp; omega) (w3.heap.size + 1) (by simp) ?_; intro g cap w4 hown4 hgrow4 hl4 hlt4
                      have s4 : w4.cell? ⟨w.heap.size + 1, 2, none⟩ = some (v 0) := by rw [cell_of_row w4 _ _ _ _ (0, 0) ((hgrow4.block _ hpl hpo).trans hrow)]; rfl
                      have t4 : w4.frozen? ⟨w.heap.size + 1, 2, none⟩ = false := frozen_of_row w4 _ 2 _ _ ((hgrow4.block _ hpl hpo).trans hrow)))
      all_goals
        have hu0 : (0 : Nat) = 0 → ∃ e, Value.slice (some ⟨wr.heap.size, 0, none⟩) 64 64 = .slice (some ⟨e, 0, none⟩) 64 64 ∧ Blk (w3.alloc (Obj.cells #[Value.slice (some ⟨wr.heap.size, 0, none⟩) 64 64] 49)) e (List.replicate 64 0) ∧ w.heap.size + 2 ≤ e ∧ ∀ j, j < 4 → (v j).ownBlock ≠ some e := fun _ =>
          ⟨_, rfl, ⟨(hla.block _ hbw.lt).trans hbw.row⟩, (by have := hbel.size; have := lt_of_block hD.row; omega), fun j hj x => by have := ((hD.own j hj).lt _ x).2; omega⟩
        have hD5 := hDa.app 0 (by omega) _ g cap hown4 hgrow4 (by simpa using hl4) hu0
        have hB3 : Below (w.heap.size + 1) wz w3 := hbel.trans (hl3'.mono (by have := hbel.size; omega))
        have hBa := hB3.alloc (by have := hB3.size; omega) (Obj.cells #[Value.slice (some ⟨wr.heap.size, 0, none⟩) 64 64] 49)
        have hB4 : Below (w.heap.size + 1) wz w4 := hBa.grown hgrow4 (by have := hBa.size; omega) (fun k hk => by have := ((hD.own 0 (by omega)).lt k hk).1; omega)
        have hB5 : Below (w.heap.size + 1) wz (w4.setCell ⟨w.heap.size + 1, 2, none⟩ (.slice (some ⟨g, 0, none⟩) (k + 1) cap)) := hB4.setCell (by show w.heap.size + 1 ≤ w.heap.size + 1; omega) _
        change NewD (w4.setCell ⟨w.heap.size + 1, 2, none⟩ (.slice (some ⟨g, 0, none⟩) (k + 1) cap)) _ _ _ _ _ _ _ at hD5
        clear hu0 hB3 hBa hB4 hown4 hgrow4 hl4 hlt4 s4 t4 hmk hl3' hD3 hw3 hbw hla hDa hown d2 ca hrow hpl hpo c2 f2 hbel hlit
        generalize w4.setCell ⟨w.heap.size + 1, 2, none⟩ (.slice (some ⟨g, 0, none⟩) (k + 1) cap) = w5 at *
        have hlb : Below w5.heap.size w5 (w5.alloc (Obj.cells #[Value.slice none 0 0] 49)) := (Below.refl _ _).alloc (Nat.le_refl _) _
        have hDb := hD5.below hlb
        have c5 : w5.cell? ⟨w.heap.size + 1, 3, none⟩ = some (v 1) := hD5.c 1 (by omega)
        have ownb : (w5.alloc (Obj.cells #[Value.slice none 0 0] 49)).ownsRow (w.heap.size + 2) 49 1 (v 1) k (xs 1) := hDb.own 1 (by omega)
        have hrow := hDb.row
        have hpl := lt_of_block hrow
        have hpo : some (w.heap.size + 1) ≠ (v 1).ownBlock := fun e => by have := (ownb.lt _ e.symm).1; omega
        go_wp2_with (at_builtin; refine wpList_append_lies _ rfl (.tmp 41) (.tmp 42) 31 rfl (w.heap.size + 2) 49 i0 _ 1 24 Tryz.underlying31 hi hz0 hz1 hz2 rfl (by omega) (v 1) k (xs 1) rfl ownb ⟨w5.heap.size, 0, none⟩ 1 1 [Value.slice none 0 0] rfl rfl (World.news_of_block (heap_alloc_new w5 _)) (by simp [Value.oneCell']) (by omega) (by unfold maxLen; omega) (by omega) (by have := hB5.size; have := lt_of_block hD5.row; simp; omega) (w5.heap.size + 1) (by simp) ?_; intro g1 cap1 w6 hown6 hgrow6 hl6 hlt6; have s6 : w6.cell? ⟨w.heap.size + 1, 3, none⟩ = some (v 1) := (cell_of_row w6 _ 3 _ _ (0, 0) ((hgrow6.block _ hpl hpo).trans hrow)).trans rfl; have t6 : w6.frozen? ⟨w.heap.size + 1, 3, none⟩ = false := frozen_of_row w6 _ 3 _ _ ((hgrow6.block _ hpl hpo).trans hrow))
        have hD7 := hDb.app 1 (by omega) _ g1 cap1 hown6 hgrow6 (by rcases hl6 with h | h; exact .inl h; right; rw [h]; simp) (fun e => by cases e)
        have hBb := hB5.alloc (by have := hB5.size; omega) (Obj.cells #[Value.slice none 0 0] 49)
        have hB6 : Below (w.heap.size + 1) wz w6 := hBb.grown hgrow6 (by have := hBb.size; omega) (fun k hk => by have := (ownb.lt k hk).1; omega)
        have hB7 : Below (w.heap.size + 1) wz (w6.setCell ⟨w.heap.size + 1, 3, none⟩ (.slice (some ⟨g1, 0, none⟩) (k + 1) cap1)) := hB6.setCell (by show w.heap.size + 1 ≤ w.heap.size + 1; omega) _
        change NewD (w6.setCell ⟨w.heap.size + 1, 3, none⟩ (.slice (some ⟨g1, 0, none⟩) (k + 1) cap1)) _ _ _ _ _ _ _ at hD7
        go_roundw
        case rel =>
          have hx7 : xs 1 ++ [Value.slice none 0 0] = List.replicate (k + 1) (Value.slice none 0 0) := by rw [hx1]; exact List.replicate_succ'.symm
          exact ⟨k + 1, _, _, by omega, by go_num, hD7.kk, hx7, hv2, hv3, hB7⟩
        case measure => simp [RowKit.intOf]; omega
    · obtain rfl : k = N := by omega
      have h2x : xs 2 = [] := List.eq_nil_of_length_eq_zero (by have := (hD.own 2 (by omega)).1; simpa using this)
      have h3x : xs 3 = [] := List.eq_nil_of_length_eq_zero (by have := (hD.own 3 (by omega)).1; simpa using this)
      clear c2 c3 f2 f3
      go_wp2_with (fail)
      obtain ⟨wo, rfl⟩ : ∃ wo : World, wo = wr := ⟨_, rfl⟩
      go_loopw [8] (fun t wr => ∃ (j : Nat) (v : Nat → Value) (xs : Nat → List Value), j ≤ n ∧ t = .int .i64 j ∧ NewD wr (w.heap.size + 2) (w.heap.size + 1) n S (fun i => if i < 2 then k else j) v xs ∧ xs 1 = List.replicate k (.slice none 0 0) ∧ xs 2 = List.replicate j (.bool false) ∧ xs 3 = List.replicate j (.int .i64 (-1)) ∧ Below (w.heap.size + 1) wz wr) (fun t _ => n - (RowKit.intOf t).toNat)
      case atStart => exact ⟨0, v, xs, Nat.zero_le _, rfl, hD, hx1, h2x, h3x, hbel⟩
      case round =>
      clear hD hx1 h2x h3x hbel hv2 hv3
      clear xs v
      obtain ⟨j, v, xs, hj, rfl, hDa, hx1, hx2, hx3, hBa⟩ := hrel
      by_cases hlt2 : j < n
      · have fa := hDa.f 4
        have hlba : Below wr.heap.size wr (wr.alloc (Obj.cells #[Value.bool false] 4)) := (Below.refl _ _).alloc (Nat.le_refl _) _
        have hDba := hDa.below hlba
        have ca : wr.cell? ⟨w.heap.size + 1, 4, none⟩ = some (v 2) := hDa.c 2 (by omega)
        have ownba : (wr.alloc (Obj.cells #[Value.bool false] 4)).ownsRow (w.heap.size + 2) 4 1 (v 2) j (xs 2) := hDba.own 2 (by omega)
        have hrowa := hDba.row
        have hpla := lt_of_block hrowa
        have hpoa : some (w.heap.size + 1) ≠ (v 2).ownBlock := fun e => by have := (ownba.lt _ e.symm).1; omega
        go_upto_region 13 with (at_builtin; refine wpList_append_lies _ rfl (.tmp 51) (.tmp 52) 32 rfl (w.heap.size + 2) 4 iB _ 1 1 Tryz.underlying32 bi bz0 bz1 bz2 rfl (by omega) (v 2) j (xs 2) rfl ownba ⟨wr.heap.size, 0, none⟩ 1 1 [Value.bool false] rfl rfl (World.news_of_block (heap_alloc_new wr _)) (by simp [Value.oneCell']) (by omega) (by unfold maxLen; omega) (by omega) (by have := hBa.size; have := lt_of_block hDa.row; simp; omega) (wr.heap.size + 1) (by simp) ?_; intro g1 cap1 w1 hown1 hgrow1 hl1 hlt1; have s1 : w1.cell? ⟨w.heap.size + 1, 4, none⟩ = some (v 2) := (cell_of_row w1 _ 4 _ _ (0, 0) ((hgrow1.block _ hpla hpoa).trans hrowa)).trans rfl; have t1 : w1.frozen? ⟨w.heap.size + 1, 4, none⟩ = false := frozen_of_row w1 _ 4 _ _ ((hgrow1.block _ hpla hpoa).trans hrowa))
        have hDe := hDba.app 2 (by omega) _ g1 cap1 hown1 hgrow1 (by rcases hl1 with h | h; exact .inl h; right; rw [h]; simp) (fun e => by cases e)
        have hBba := hBa.alloc (by have := hBa.size; omega) (Obj.cells #[Value.bool false] 4)
        have hBca : Below (w.heap.size + 1) wz w1 := hBba.grown hgrow1 (by have := hBba.size; omega) (fun k hk => by have := (ownba.lt k hk).1; omega)
        have hBe : Below (w.heap.size + 1) wz (w1.setCell ⟨w.heap.size + 1, 4, none⟩ (.slice (some ⟨g1, 0, none⟩) (j + 1) cap1)) := hBca.setCell (by show w.heap.size + 1 ≤ w.heap.size + 1; omega) _
        change NewD (w1.setCell ⟨w.heap.size + 1, 4, none⟩ (.slice (some ⟨g1, 0, none⟩) (j + 1) cap1)) _ _ _ _ _ _ _ at hDe
        clear hown1 hgrow1 hl1 hlt1 s1 t1 hlba hDba ca ownba hrowa hpla hpoa hBba hBca fa
        generalize w1.setCell ⟨w.heap.size + 1, 4, none⟩ (.slice (some ⟨g1, 0, none⟩) (j + 1) cap1) = w5 at *
        have hlbe : Below w5.heap.size w5 (w5.alloc (Obj.cells #[Value.int IntKind.i64 (-1)] 3)) := (Below.refl _ _).alloc (Nat.le_refl _) _
        have hDbe := hDe.below hlbe
        have ce : w5.cell? ⟨w.heap.size + 1, 5, none⟩ = some (v 3) := hDe.c 3 (by omega)
        have ownbe : (w5.alloc (Obj.cells #[Value.int IntKind.i64 (-1)] 3)).ownsRow (w.heap.size + 2) 3 1 (v 3) j (xs 3) := hDbe.own 3 (by omega)
        have hrowe := hDbe.row
        have hple := lt_of_block hrowe
        have hpoe : some (w.heap.size + 1) ≠ (v 3).ownBlock := fun e => by have := (ownbe.lt _ e.symm).1; omega
        go_wp2_with (at_builtin; refine wpList_append_lies _ rfl (.tmp 56) (.tmp 57) 33 rfl (w.heap.size + 2) 3 iI _ 1 8 Tryz.underlying33 ii iz0 iz1 iz2 rfl (by omega) (v 3) j (xs 3) rfl ownbe ⟨w5.heap.size, 0, none⟩ 1 1 [Value.int IntKind.i64 (-1)] rfl rfl (World.news_of_block (heap_alloc_new w5 _)) (by simp [Value.oneCell']) (by omega) (by unfold maxLen; omega) (by omega) (by have := hBe.size; have := lt_of_block hDe.row; simp; omega) (w5.heap.size + 1) (by simp) ?_; intro g2 cap2 w2 hown2 hgrow2 hl2 hlt2; have s2 : w2.cell? ⟨w.heap.size + 1, 5, none⟩ = some (v 3) := (cell_of_row w2 _ 5 _ _ (0, 0) ((hgrow2.block _ hple hpoe).trans hrowe)).trans rfl; have t2 : w2.frozen? ⟨w.heap.size + 1, 5, none⟩ = false := frozen_of_row w2 _ 5 _ _ ((hgrow2.block _ hple hpoe).trans hrowe))
        have hDz := hDbe.app 3 (by omega) _ g2 cap2 hown2 hgrow2 (by rcases hl2 with h | h; exact .inl h; right; rw [h]; simp) (fun e => by cases e)
        have hBbe := hBe.alloc (by have := hBe.size; omega) (Obj.cells #[Value.int IntKind.i64 (-1)] 3)
        have hBce : Below (w.heap.size + 1) wz w2 := hBbe.grown hgrow2 (by have := hBbe.size; omega) (fun k hk => by have := (ownbe.lt k hk).1; omega)
        have hBz : Below (w.heap.size + 1) wz (w2.setCell ⟨w.heap.size + 1, 5, none⟩ (.slice (some ⟨g2, 0, none⟩) (j + 1) cap2)) := hBce.setCell (by show w.heap.size + 1 ≤ w.heap.size + 1; omega) _
        change NewD (w2.setCell ⟨w.heap.size + 1, 5, none⟩ (.slice (some ⟨g2, 0, none⟩) (j + 1) cap2)) _ _ _ _ _ _ _ at hDz
        have e2 : xs 2 ++ [Value.bool false] = List.replicate (j + 1) (Value.bool false) := by rw [hx2]; exact List.replicate_succ'.symm
        have e3 : xs 3 ++ [Value.int IntKind.i64 (-1)] = List.replicate (j + 1) (Value.int IntKind.i64 (-1)) := by rw [hx3]; exact List.replicate_succ'.symm
        go_roundw
        case rel => exact ⟨j + 1, _, _, by omega, by go_num, hDz.kk2, hx1, e2, e3, hBz⟩
        case measure => simp [RowKit.intOf]; omega
      · obtain rfl : j = n := by omega
        have r0 := hDa.row
        have r1 := (hBa.block w.heap.size (by omega)).trans hzq.out
        have y0 : wr.cell? ⟨w.heap.size + 1, 0, none⟩ = some (.int .i64 j) := (cell_of_row wr _ 0 _ _ (0, 0) r0).trans rfl
        have y1 : wr.cell? ⟨w.heap.size + 1, 1, none⟩ = some (.int .i64 S) := (cell_of_row wr _ 1 _ _ (0, 0) r0).trans rfl
        have y2 : wr.cell? ⟨w.heap.size + 1, 2, none⟩ = some (v 0) := hDa.c 0 (by omega)
        have y3 : wr.cell? ⟨w.heap.size + 1, 3, none⟩ = some (v 1) := hDa.c 1 (by omega)
        have y4 : wr.cell? ⟨w.heap.size + 1, 4, none⟩ = some (v 2) := hDa.c 2 (by omega)
        have y5 : wr.cell? ⟨w.heap.size + 1, 5, none⟩ = some (v 3) := hDa.c 3 (by omega)
        have y6 : wr.cell? ⟨w.heap.size + 1, 6, none⟩ = some (.int .i64 (-1)) := (cell_of_row wr _ 6 _ _ (0, 0) r0).trans rfl
        have y7 : wr.cell? ⟨w.heap.size + 1, 7, none⟩ = some (.bool false) := (cell_of_row wr _ 7 _ _ (0, 0) r0).trans rfl
        have z0 : wr.cell? ⟨w.heap.size, 0, none⟩ = some (.int .i64 0) := (cell_of_row wr w.heap.size 0 _ _ (0, 0) r1).trans rfl
        have zf0 : wr.frozen? ⟨w.heap.size, 0, none⟩ = false := frozen_of_row wr _ 0 _ _ r1
        have z1 : wr.cell? ⟨w.heap.size, 1, none⟩ = some (.int .i64 0) := (cell_of_row wr w.heap.size 1 _ _ (0, 0) r1).trans rfl
        have zf1 : wr.frozen? ⟨w.heap.size, 1, none⟩ = false := frozen_of_row wr _ 1 _ _ r1
        have z2 : wr.cell? ⟨w.heap.size, 2, none⟩ = some (.slice none 0 0) := (cell_of_row wr w.heap.size 2 _ _ (0, 0) r1).trans rfl
        have zf2 : wr.frozen? ⟨w.heap.size, 2, none⟩ = false := frozen_of_row wr _ 2 _ _ r1
        have z3 : wr.cell? ⟨w.heap.size, 3, none⟩ = some (.slice none 0 0) := (cell_of_row wr w.heap.size 3 _ _ (0, 0) r1).trans rfl
        have zf3 : wr.frozen? ⟨w.heap.size, 3, none⟩ = false := frozen_of_row wr _ 3 _ _ r1
        have z4 : wr.cell? ⟨w.heap.size, 4, none⟩ = some (.slice none 0 0) := (cell_of_row wr w.heap.size 4 _ _ (0, 0) r1).trans rfl
        have zf4 : wr.frozen? ⟨w.heap.size, 4, none⟩ = false := frozen_of_row wr _ 4 _ _ r1
        have z5 : wr.cell? ⟨w.heap.size, 5, none⟩ = some (.slice none 0 0) := (cell_of_row wr w.heap.size 5 _ _ (0, 0) r1).trans rfl
        have zf5 : wr.frozen? ⟨w.heap.size, 5, none⟩ = false := frozen_of_row wr _ 5 _ _ r1
        have z6 : wr.cell? ⟨w.heap.size, 6, none⟩ = some (.int .i64 0) := (cell_of_row wr w.heap.size 6 _ _ (0, 0) r1).trans rfl
        have zf6 : wr.frozen? ⟨w.heap.size, 6, none⟩ = false := frozen_of_row wr _ 6 _ _ r1
        have z7 : wr.cell? ⟨w.heap.size, 7, none⟩ = some (.bool false) := (cell_of_row wr w.heap.size 7 _ _ (0, 0) r1).trans rfl
        have zf7 : wr.frozen? ⟨w.heap.size, 7, none⟩ = false := frozen_of_row wr _ 7 _ _ r1
        have hkp : 0 < k := by rw [hN.out]; exact Nat.mul_pos h1 h3
        obtain ⟨g0, p0, e0⟩ := hDa.form 0 (by omega) hkp
        obtain ⟨g1, p1, e1⟩ := hDa.form 1 (by omega) hkp
        obtain ⟨g2, p2, e2⟩ := hDa.form 2 (by omega) h1
        obtain ⟨g3, p3, e3⟩ := hDa.form 3 (by omega) h1
        rw [e0] at y2
        rw [e1] at y3
        rw [e2] at y4
        rw [e3] at y5
        have hDa' := hDa
        rw [hN.out] at hDa'
        have hfin : Hid (∀ w', Turn (· = w.heap.size) wr w' → RNew j S w (.returned (.tuple #[.agg #[.int .i64 j, .int .i64 S, v 0, v 1, v 2, v 3, .int .i64 (-1), .bool false], .int .i64 0])) w') := by
          intro w' ht
          have hBw : Below w.heap.size w wr := ((Below.refl w.heap.size w).alloc (Nat.le_refl _) _).trans (by rw [← hwz.out]; exact hBa.mono (by omega))
          refine ⟨v, xs, rfl, hDa'.turnq ht (by omega), by rw [← hN.out]; exact hx1, hx2, hx3, hBw.trans (ht.below hBw.size fun k e => by rw [e]; exact Nat.le_refl _)⟩
        rw [e0, e1, e2, e3] at hfin
        clear e0 e1 e2 e3 hDa hx1 hx2 hx3 hBa r0 r1
        go_wp2_with (fail)
        refine bodyPost_ret (v := .tuple #[.agg #[.int .i64 j, .int .i64 S, .slice (some ⟨g0, 0, none⟩) k p0, .slice (some ⟨g1, 0, none⟩) k p1, .slice (some ⟨g2, 0, none⟩) j p2, .slice (some ⟨g3, 0, none⟩) j p3, .int .i64 (-1), .bool false], .int .i64 0]) (by simp [results, Tryz.results8, go_sem, z0, z1, z2, z3, z4, z5, z6, z7]) rfl ?_
        exact hfin.out _ ((((((((turn_set _ _ _ _).trans (turn_set _ _ _ _)).trans (turn_set _ _ _ _)).trans (turn_set _ _ _ _)).trans (turn_set _ _ _ _)).trans (turn_set _ _ _ _)).trans (turn_set _ _ _ _)).trans (turn_set _ _ _ _))

end Go.Proofs.YtciddoeeiamndaaGreat

/-
  What the reference's New answers, laid into a variable: a rack.
-/
namespace Go.Proofs.YtciddoeeiamndaaGreat
open Go.RowKit Go.Maps

def newRf (n S : Nat) : Rf := ⟨n, S, fun _ => List.replicate 64 0, fun _ => none, fun _ => false, fun _ => -1, -1, false⟩

theorem col_own {w : World} {B : Nat} {t : TypeId} {g n c : Nat} {xs : List Value} (h : w.ownsRow B t 1 (.slice (some ⟨g, 0, none⟩) n c) n xs) : Col w g t n (fun j => xs.getD j undef) := by
  rcases h.2 with ⟨h', _⟩ | ⟨g', cap', cur, h', _, hg, _, _, _, htake⟩
  · simp at h'
  · simp only [Value.slice.injEq, Option.some.injEq, Addr.mk.injEq, and_true, true_and] at h'
    obtain ⟨rfl, rfl⟩ := h'
    refine ⟨cur, hg, fun j hj => ?_⟩
    have hl := h.1
    have hj2 : j < xs.length := by rw [hl]; omega
    have : cur[j]? = xs[j]? := by
      rw [← htake, List.getElem?_take, if_pos (by omega)]
      simp
    rw [this]
    simp [List.getD, hj2]

theorem RefAt.of_new {w : World} {B p n S P : Nat} {v : Nat → Value} {xs : Nat → List Value} (h : NewD w B p n S (fun i => if i < 2 then n * S else n) v xs)
    (hx1 : xs 1 = List.replicate (n * S) (.slice none 0 0)) (hx2 : xs 2 = List.replicate n (.bool false)) (hx3 : xs 3 = List.replicate n (.int .i64 (-1)))
    (hrow : w.heap[P]? = some (.cells #[.int .i64 n, .int .i64 S, v 0, v 1, v 2, v 3, .int .i64 (-1), .bool false] 35 (0, 0))) (hP : P < B) (h1 : 1 ≤ n) (h2 : n ≤ 17) (h3 : 1 ≤ S) (h4 : S ≤ 4096) (N : Nat → Prop) (hN : ∀ k, N k → k < B) (hNw : ∀ k, N k → k < w.heap.size) :
    ∃ L : RLay, L.p = P ∧ (∀ k, L.M k → k = P ∨ B ≤ k) ∧ RefAt w (fun k => N k ∨ L.M k) L (newRf n S) := by
  have hkp : 0 < n * S := Nat.mul_pos h1 h3
  obtain ⟨g0, p0, e0⟩ := h.form 0 (by omega) hkp
  obtain ⟨g1, p1, e1⟩ := h.form 1 (by omega) hkp
  obtain ⟨g2, p2, e2⟩ := h.form 2 (by omega) h1
  obtain ⟨g3, p3, e3⟩ := h.form 3 (by omega) h1
  have o0 := h.own 0 (by omega)
  have o1 := h.own 1 (by omega)
  have o2 := h.own 2 (by omega)
  have o3 := h.own 3 (by omega)
  have b0 := o0.lt g0 (by rw [e0]; rfl)
  have b1 := o1.lt g1 (by rw [e1]; rfl)
  have b2 := o2.lt g2 (by rw [e2]; rfl)
  have b3 := o3.lt g3 (by rw [e3]; rfl)
  have hne : ∀ i j, i < 4 → j < 4 → i ≠ j → ∀ a b, (v i).ownBlock = some a → (v j).ownBlock = some b → a ≠ b := fun i j hi hj hij a b ha hb e => h.ne i j hi hj hij a ha (by rw [hb, e])
  have w0 : (v 0).ownBlock = some g0 := by rw [e0]; rfl
  have w1 : (v 1).ownBlock = some g1 := by rw [e1]; rfl
  have w2 : (v 2).ownBlock = some g2 := by rw [e2]; rfl
  have w3 : (v 3).ownBlock = some g3 := by rw [e3]; rfl
  rw [e0] at o0
  rw [e1, hx1] at o1
  rw [e2, hx2] at o2
  rw [e3, hx3] at o3
  rw [e0, e1, e2, e3] at hrow
  have hlow : ∀ k, (⟨P, g0, g1, g2, g3, p0, p1, p2, p3⟩ : RLay).M k → k = P ∨ B ≤ k := by
    intro k hk
    rcases hk with rfl | rfl | rfl | rfl | rfl
    · exact .inl rfl
    · exact .inr b0.1
    · exact .inr b1.1
    · exact .inr b2.1
    · exact .inr b3.1
  refine ⟨⟨P, g0, g1, g2, g3, p0, p1, p2, p3⟩, rfl, hlow, fun j => (xs 0).getD j undef, fun _ => .slice none 0 0, ⟨hrow, col_own o0, ?_, ?_, ?_, fun k hk => ?_, fun k _ => .inl ⟨rfl, rfl⟩, ⟨?_, ?_, ?_, ?_, ?_, ?_, ?_, ?_, ?_, ?_⟩, fun _ x => .inr x, fun k hk => ?_, h2, h3, h4, (by show (-1 : Int) ≤ _; omega), fun _ => (by show (-1 : Int) ≤ _; omega)⟩⟩
  · exact (col_own o1).congr fun k hk => by simp [List.getD, show k < n * S from hk]
  · exact (col_own o2).congr fun k hk => by simp [List.getD, show k < n from hk, newRf]
  · exact (col_own o3).congr fun k hk => by simp [List.getD, show k < n from hk, newRf]
  · obtain ⟨g, he, hb, hB, hno⟩ := h.el k hk
    refine ⟨g, 64, by simp [List.getD, he], ?_, hb.bysn (AllB.zeros _) (by simp)⟩
    intro hM
    rcases hM with hM | rfl | rfl | rfl | rfl | rfl
    · have := hN _ hM
      omega
    · show False
      omega
    · exact hno 0 (by omega) w0
    · exact hno 1 (by omega) w1
    · exact hno 2 (by omega) w2
    · exact hno 3 (by omega) w3
  · show P ≠ g0; omega
  · show P ≠ g1; omega
  · show P ≠ g2; omega
  · show P ≠ g3; omega
  · exact hne 0 1 (by omega) (by omega) (by omega) _ _ w0 w1
  · exact hne 0 2 (by omega) (by omega) (by omega) _ _ w0 w2
  · exact hne 0 3 (by omega) (by omega) (by omega) _ _ w0 w3
  · exact hne 1 2 (by omega) (by omega) (by omega) _ _ w1 w2
  · exact hne 1 3 (by omega) (by omega) (by omega) _ _ w1 w3
  · exact hne 2 3 (by omega) (by omega) (by omega) _ _ w2 w3
  · have hPl := lt_of_block hrow
    rcases hk with hk | rfl | rfl | rfl | rfl | rfl
    · exact hNw k hk
    · exact hPl
    · exact b0.2
    · exact b1.2
    · exact b2.2
    · exact b3.2

end Go.Proofs.YtciddoeeiamndaaGreat

/-
  The reference's New of what is no rack.
-/
namespace Go.Proofs.YtciddoeeiamndaaGreat
open Go.RowKit Go.Maps

set_option maxHeartbeats 1000000 in
theorem rnew_bad (n S : Int) (w : World) (h : n < 1 ∨ 17 < n ∨ S < 1 ∨ 4096 < S) :
    Calls Tryz.prog 8 #[.int .i64 n, .int .i64 S] w fun e w' => e = .returned (.tuple #[.agg #[.int .i64 0, .int .i64 0, .slice none 0 0, .slice none 0 0, .slice none 0 0, .slice none 0 0, .int .i64 0, .bool false], .int .i64 10]) ∧ Below w.heap.size w w' := by
  by_cases h1 : n < 1
  · clear h
    go_enter Tryz.func8, Tryz.ntmps8
    go_wp2_with (fail)
    exact bodyPost_ret (v := .tuple #[.agg #[.int .i64 0, .int .i64 0, .slice none 0 0, .slice none 0 0, .slice none 0 0, .slice none 0 0, .int .i64 0, .bool false], .int .i64 10]) (by simp [results, Tryz.results8, go_sem]) rfl ⟨rfl, (Below.refl _ _).alloc (Nat.le_refl _) _⟩
  · by_cases h2 : 17 < n
    · clear h
      go_enter Tryz.func8, Tryz.ntmps8
      go_wp2_with (fail)
      exact bodyPost_ret (v := .tuple #[.agg #[.int .i64 0, .int .i64 0, .slice none 0 0, .slice none 0 0, .slice none 0 0, .slice none 0 0, .int .i64 0, .bool false], .int .i64 10]) (by simp [results, Tryz.results8, go_sem]) rfl ⟨rfl, (Below.refl _ _).alloc (Nat.le_refl _) _⟩
    · by_cases h3 : S < 1
      · clear h
        go_enter Tryz.func8, Tryz.ntmps8
        go_wp2_with (fail)
        exact bodyPost_ret (v := .tuple #[.agg #[.int .i64 0, .int .i64 0, .slice none 0 0, .slice none 0 0, .slice none 0 0, .slice none 0 0, .int .i64 0, .bool false], .int .i64 10]) (by simp [results, Tryz.results8, go_sem]) rfl ⟨rfl, (Below.refl _ _).alloc (Nat.le_refl _) _⟩
      · have h4 : 4096 < S := by omega
        clear h
        go_enter Tryz.func8, Tryz.ntmps8
        go_wp2_with (fail)
        exact bodyPost_ret (v := .tuple #[.agg #[.int .i64 0, .int .i64 0, .slice none 0 0, .slice none 0 0, .slice none 0 0, .slice none 0 0, .int .i64 0, .bool false], .int .i64 10]) (by simp [results, Tryz.results8, go_sem]) rfl ⟨rfl, (Below.refl _ _).alloc (Nat.le_refl _) _⟩

end Go.Proofs.YtciddoeeiamndaaGreat

/-
  One contract for each call of the reference's rack, whatever the arguments.
-/
namespace Go.Proofs.YtciddoeeiamndaaGreat
open Go.RowKit Go.Maps

def Rf.callB (F : Rf) (i : Nat) : Int := if F.pw = 0 then 12 else if F.call.bad i then 13 else 0
def Rf.wrE (F : Rf) (i s : Int) (zs : List Int) : Int := if F.dead then 12 else if hasB F.n F.S i s && decide (zs.length = 64) then F.callB i.toNat else 11
def Rf.wr (F : Rf) (i s : Int) (zs : List Int) : Rf := if !F.dead && (hasB F.n F.S i s && decide (zs.length = 64)) then (if F.callB i.toNat = 0 then { F.call with C := atI F.call.C (i.toNat * F.S + s.toNat) (some zs) } else F.call) else F
def Rf.flE (F : Rf) (i : Int) : Int := if F.dead then 12 else if 0 ≤ i ∧ i < F.n then F.callB i.toNat else 11
def Rf.fl (F : Rf) (i : Int) : Rf := if F.dead = false ∧ (0 ≤ i ∧ i < F.n) then (if F.callB i.toNat = 0 then F.call.flushed (i.toNat * F.S) ((i.toNat + 1) * F.S) else F.call) else F
def Rf.rdE (F : Rf) (i s : Int) : Int := if F.dead then 12 else if hasB F.n F.S i s then (if F.bad i.toNat then 13 else 0) else 11
def Rf.rdV (F : Rf) (i s : Int) : List Int := if F.rdE i s = 0 then F.rd (i.toNat * F.S + s.toNat) else []
def Rf.dkE (F : Rf) (i : Int) : Int := if 0 ≤ i ∧ i < F.n then 0 else 11
def Rf.doom (F : Rf) (i n : Int) : Rf := if 0 ≤ i ∧ i < F.n then { F with cnt := atI F.cnt i.toNat (max n (-1)) } else F

section
variable {M : Nat → Prop} {L : RLay} {F : Rf} {w : World}
theorem rpost_same {v : Value} (h : RefAt w M L F) {e : Ending} {w' : World} (he : e = .returned v ∧ w = w') : RefPost M L F w v e w' := by
  obtain ⟨rfl, rfl⟩ := he
  exact ⟨rfl, h, Turn.refl _ _⟩
theorem callB_dead {i : Nat} (h : F.callE ≠ 0) : F.callB i = F.callE ∧ F.callB i ≠ 0 := by
  unfold Rf.callE at h ⊢
  unfold Rf.callB
  by_cases h0 : F.pw = 0
  · rw [if_pos h0, if_pos h0]; exact ⟨rfl, by omega⟩
  · rw [if_neg h0] at h; exact absurd rfl h
theorem callB_live {i : Nat} (h : F.callE = 0) : F.callB i = if F.call.bad i then 13 else 0 := by
  unfold Rf.callE at h
  unfold Rf.callB
  by_cases h0 : F.pw = 0
  · rw [if_pos h0] at h; omega
  · rw [if_neg h0]
theorem rwrite_all (i s : Int) (a : Option Addr) (n c : Nat) (zs : List Int) (h : RefAt w M L F) (hz : Bys w a n zs) (hzM : n = 0 ∨ ∀ b off, a = some ⟨b, off, none⟩ → ¬ M b) :
    Calls Tryz.prog 93 #[.pointer (some ⟨L.p, 0, none⟩), .int .i64 i, .int .i64 s, .slice a n c] w (RefPost M L (F.wr i s zs) w (.int .i64 (F.wrE i s zs))) := by
  obtain rfl := hz.len
  cases ho : F.dead with
  | true =>
    refine (rwrite_dead M L F w i s a _ c h ho).mono fun e w' he => ?_
    unfold Rf.wr Rf.wrE
    simp only [ho]
    exact rpost_same h he
  | false =>
    by_cases hb : hasB F.n F.S i s = true ∧ zs.length = 64
    · obtain ⟨hb, hl⟩ := hb
      have hgo : (hasB F.n F.S i s && decide (zs.length = 64)) = true := by simp [hb, hl]
      obtain ⟨x, y, rfl, rfl, hx, hy⟩ := hasB_nat hb
      rw [hl]
      unfold Rf.wr Rf.wrE
      simp only [ho, hgo, Bool.not_false, Bool.and_self, if_true, Int.toNat_natCast, Bool.false_eq_true, if_false]
      by_cases hE : F.callE = 0
      · cases hbad : F.call.bad x with
        | true =>
          have e2 : F.callB x = 13 := by rw [callB_live hE, hbad]; rfl
          rw [e2, if_neg (by omega)]
          exact rwrite_failed M L F w x y a c h ho hx hy hE hbad
        | false =>
          have e2 : F.callB x = 0 := by rw [callB_live hE, hbad]; rfl
          rw [e2, if_pos rfl]
          rw [hl] at hz
          rcases hz.place with h0 | ⟨b, off, rfl, hlt, hc⟩
          · omega
          exact rwrite_ok M L F w x y b off c zs h ho hx hy hE hbad hz ((hzM.resolve_left (by omega)) _ _ rfl)
      · rw [if_neg (callB_dead hE).2, (callB_dead hE).1]
        exact rwrite_err M L F w x y a c h ho hx hy hE
    · have hgo : (hasB F.n F.S i s && decide (zs.length = 64)) = false := by
        rw [Bool.and_eq_false_iff]
        by_cases h1 : hasB F.n F.S i s = true
        · right; exact decide_eq_false fun x => hb ⟨h1, x⟩
        · left; simpa using h1
      refine (rwrite_bad M L F w i s a _ c h ho (by
        by_cases h1 : hasB F.n F.S i s = true
        · right; exact fun x => hb ⟨h1, x⟩
        · left; simpa using h1)).mono fun e w' he => ?_
      unfold Rf.wr Rf.wrE
      simp only [ho, hgo, Bool.and_false, Bool.false_eq_true, if_false]
      exact rpost_same h he
theorem rread_all (i s : Int) (h : RefAt w M L F) :
    Calls Tryz.prog 14 #[.pointer (some ⟨L.p, 0, none⟩), .int .i64 i, .int .i64 s] w (RetE w (F.rdV i s) (F.rdE i s)) := by
  unfold Rf.rdV
  cases ho : F.dead with
  | true =>
    refine (rread_dead M L F w i s h ho).mono fun e w' he => ?_
    have : F.rdE i s = 12 := by simp [Rf.rdE, ho]
    rw [this]
    exact RetE.nil w 12 he
  | false =>
    by_cases hb : hasB F.n F.S i s = true
    · obtain ⟨x, y, rfl, rfl, hx, hy⟩ := hasB_nat hb
      cases hbad : F.bad x with
      | true =>
        refine (rread_failed M L F w x y h ho hx hy hbad).mono fun e w' he => ?_
        have : F.rdE x y = 13 := by simp [Rf.rdE, ho, hb, hbad]
        rw [this]
        exact RetE.nil w 13 he
      | false =>
        have : F.rdE x y = 0 := by simp [Rf.rdE, ho, hb, hbad]
        rw [this, if_pos rfl, Int.toNat_natCast, Int.toNat_natCast]
        exact rread_ok M L F w x y h ho hx hy hbad
    · have hb' : hasB F.n F.S i s = false := by simpa using hb
      refine (rread_bad M L F w i s h ho hb').mono fun e w' he => ?_
      have : F.rdE i s = 11 := by simp [Rf.rdE, ho, hb']
      rw [this]
      exact RetE.nil w 11 he
theorem rdoom_all (i n : Int) (h : RefAt w M L F) (hn : n ≤ 9223372036854775807) :
    Calls Tryz.prog 44 #[.pointer (some ⟨L.p, 0, none⟩), .int .i64 i, .int .i64 n] w (RefPost M L (F.doom i n) w (.int .i64 (F.dkE i))) := by
  unfold Rf.doom Rf.dkE
  by_cases hb : 0 ≤ i ∧ i < F.n
  · obtain ⟨x, rfl, hx⟩ := disk_nat hb
    rw [if_pos hb, if_pos hb, Int.toNat_natCast]
    exact rdoom_ok M L F w x n h hx hn
  · rw [if_neg hb, if_neg hb]
    exact (rdoom_bad M L F w i n h hb).mono fun e w' he => rpost_same h he
end

end Go.Proofs.YtciddoeeiamndaaGreat

/-
  The program's rack and the reference's beside each other.
-/
namespace Go.Proofs.YtciddoeeiamndaaGreat
open Go.RowKit Go.Maps

theorem bys_turn0 {M : Nat → Prop} {w w' : World} {a : Option Addr} {n : Nat} {zs : List Int} (h : Bys w a n zs) (ht : Turn M w w') (hm : n = 0 ∨ ∀ b off, a = some ⟨b, off, none⟩ → ¬ M b) : Bys w' a n zs := by
  rcases hm with h0 | hm
  · exact ⟨h.len, h.small, .inl h0⟩
  · exact bys_turn h ht hm
/-- Both racks stand beside each other. -/
structure Both (w : World) (L : Lay) (K : RLay) (R : Rk) (F : Rf) : Prop where
  rk : RackAt w (fun k => L.M R.n k ∨ K.M k) L R
  rf : RefAt w (fun k => L.M R.n k ∨ K.M k) K F
  ne : ∀ k, L.M R.n k → ¬ K.M k
section
variable {w w' : World} {L : Lay} {K : RLay} {R R' : Rk} {F F' : Rf}
theorem Both.rack (h : Both w L K R F) (hn : R'.n = R.n) (hr : RackAt w' (fun k => L.M R.n k ∨ K.M k) L R') (ht : Turn (L.M R.n) w w') : Both w' L K R' F := by
  have h2 := h.rf.keep ht (fun _ => .inl) (fun k hk x => h.ne k x hk)
  rw [← hn] at hr h2
  exact ⟨hr, h2, by rw [hn]; exact h.ne⟩
theorem Both.ref (h : Both w L K R F) (hr : RefAt w' (fun k => L.M R.n k ∨ K.M k) K F') (ht : Turn K.M w w') : Both w' L K R F' :=
  ⟨h.rk.keep ht (fun _ => .inr) (fun k hk => h.ne k hk), hr, h.ne⟩
theorem Both.below (h : Both w L K R F) (hb : Below w.heap.size w w') : Both w' L K R F := ⟨h.rk.below hb, h.rf.below hb, h.ne⟩
end


theorem Rk.doom_n (R : Rk) (i n : Int) : (R.doom i n).n = R.n := by unfold Rk.doom; split <;> rfl
theorem Rk.restore_n (R : Rk) (ks : List Int) : (R.restore ks).n = R.n := rfl

end Go.Proofs.YtciddoeeiamndaaGreat
