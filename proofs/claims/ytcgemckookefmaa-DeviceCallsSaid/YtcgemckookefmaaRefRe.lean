/-
  The reference's Restore, by contract.
-/
import Derived.Test.YtcgemckookefmaaRefFl
namespace Go.Proofs.Ytcgemckookefmaa
open Go.RowKit Go.Maps

theorem i64_and1 (n : Int) : bits .and .i64 n 1 = n % 2 := by
  have h3 : (BitVec.ofInt 64 1).toNat = 2 ^ 1 - 1 := by decide
  have key : (BitVec.ofInt 64 n &&& BitVec.ofInt 64 1).toNat = (n % ((2 ^ 64 : Nat) : Int)).toNat % 2 ^ 1 := by
    rw [BitVec.toNat_and, BitVec.toNat_ofInt, h3, Nat.and_two_pow_sub_one_eq_mod]
  show IntKind.i64.wrap ((BitVec.ofInt 64 n &&& BitVec.ofInt 64 1).toNat : Nat) = n % 2
  rw [key, IntKind.wrap_i64]
  omega
theorem bit_tmod (z : Int) : (bits .and .i64 z 1 = 1 ∧ (z.tmod 2 != 0) = true) ∨ (bits .and .i64 z 1 = 0 ∧ (z.tmod 2 != 0) = false) := by
  rw [i64_and1]
  have e : z.tmod 2 = 0 ↔ z % 2 = 0 := by
    constructor
    · intro h
      have := Int.dvd_of_tmod_eq_zero h
      omega
    · intro h
      exact Int.tmod_eq_zero_of_dvd (by omega)
  rcases (by omega : z % 2 = 1 ∨ z % 2 = 0) with h | h
  · left
    refine ⟨h, ?_⟩
    have : z.tmod 2 ≠ 0 := fun x => by have := e.1 x; omega
    simpa using this
  · right
    refine ⟨h, ?_⟩
    simpa using e.2 h

/-- Does the reference keep the content cached at this place? -/
def Rf.stays (F : Rf) (ks : List Int) (j : Nat) : Bool := (F.C j).isSome && (keptB ks (rank F.C j) && !F.bad (j / F.S))
/-- The reference's rack of which the first k places are restored. -/
def Rf.restTo (F : Rf) (ks : List Int) (k : Nat) : Rf := { F with L := fun j => if j < k ∧ F.stays ks j = true then F.rd j else F.L j, C := fun j => if j < k then none else F.C j, pw := -1, dead := false }

section
variable (F : Rf)
theorem restTo_L (ks : List Int) (k : Nat) : (F.restTo ks (k + 1)).L = atI (F.restTo ks k).L k (if F.stays ks k then F.rd k else F.L k) := by
  funext j
  show (if j < k + 1 ∧ F.stays ks j = true then F.rd j else F.L j) = if j = k then _ else if j < k ∧ F.stays ks j = true then F.rd j else F.L j
  by_cases e : j = k
  · subst e
    rw [if_pos rfl]
    by_cases h : F.stays ks j = true
    · rw [if_pos ⟨by omega, h⟩, if_pos h]
    · rw [if_neg (fun x => h x.2), if_neg h]
  · rw [if_neg e]
    by_cases h : j < k ∧ F.stays ks j = true
    · rw [if_pos ⟨by omega, h.2⟩, if_pos h]
    · rw [if_neg (fun x => h ⟨by omega, x.2⟩), if_neg h]
theorem restTo_C (ks : List Int) (k : Nat) : (F.restTo ks (k + 1)).C = atI (F.restTo ks k).C k none := by
  funext j
  show (if j < k + 1 then none else F.C j) = if j = k then none else if j < k then none else F.C j
  by_cases e : j = k
  · subst e; rw [if_pos (by omega), if_pos rfl]
  · rw [if_neg e]
    by_cases h : j < k
    · rw [if_pos (by omega), if_pos h]
    · rw [if_neg (by omega), if_neg h]
end

set_option maxRecDepth 100000 in
set_option maxHeartbeats 4000000 in
theorem rrestore (M : Nat → Prop) (L : RLay) (F : Rf) (w : World) (l c : Nat) (a : Option Addr) (ks : List Int) (h : RefAt w M L F) (hx : Ins w a l ks) (hxm : l = 0 ∨ ∀ b off, a = some ⟨b, off, none⟩ → ¬ L.M b) (hl : l ≤ 1000000000000) :
    Calls Try.prog 36 #[.pointer (some ⟨L.p, 0, none⟩), .slice a l c] w (RefPost M L (F.restTo ks (F.n * F.S)) w (.tuple #[])) := by
  obtain ⟨fl, fc, h⟩ := h
  obtain ⟨n, hn⟩ : ∃ n, Hid (n = F.n) := ⟨_, Lib.hid rfl⟩
  obtain ⟨S, hS⟩ : ∃ S, Hid (S = F.S) := ⟨_, Lib.hid rfl⟩
  obtain ⟨N, hN⟩ : ∃ N, Hid (N = F.n * F.S) := ⟨_, Lib.hid rfl⟩
  have few := h.few
  have fewS := h.fewS
  have hS1 : (1 : Int) ≤ (S : Int) := by have := h.one; rw [hS.out]; omega
  have hN1 : N ≤ 100000 := by
    have : F.n * F.S ≤ 17 * 4096 := Nat.mul_le_mul few fewS
    rw [hN.out]; omega
  have c6 := h.c6
  have c7 := h.c7
  have f6 := h.fp 6
  have f7 := h.fp 7
  have hfin : Hid (F.restTo ks (F.n * F.S) = F.restTo ks N) := by unfold Hid; rw [hN.out]
  go_enter Try.func36, Try.ntmps36
  go_wp2_with (fail)
  go_loopw [4, 5] (fun t i wr => ∃ k : Nat, k ≤ N ∧ i = .int .i64 k ∧ t = .int .i64 (rank F.C k) ∧ RefAt wr M L (F.restTo ks k) ∧ Turn L.M w wr) (fun _ i _ => N - (intOf i).toNat)
  case atStart =>
    refine ⟨0, Nat.zero_le _, rfl, rfl, ⟨fl, fc, ?_⟩, ((turn_set w L.p 7 _).trans (turn_set _ L.p 6 _)).mono fun k e => e ▸ L.M_p⟩
    refine ((h.setDead false).setPw (-1) (by omega)).congr rfl rfl rfl rfl (fun j _ => ?_) (fun j _ => ?_) (fun _ _ => rfl) (fun _ _ => rfl) h.bigc
    · simp [Rf.restTo]
    · simp [Rf.restTo]
  case round =>
    obtain ⟨k, hk, rfl, rfl, ⟨fl2, fc2, hr2⟩, ht2⟩ := hrel
    have a1 : wr.cell? ⟨L.p, 1, none⟩ = some (.int .i64 S) := by have := hr2.c1; rwa [show (F.restTo ks k).S = S from hS.out.symm] at this
    have a2 : wr.cell? ⟨L.p, 2, none⟩ = some (.slice (some ⟨L.lb, 0, none⟩) N L.k1) := by have := hr2.c2; rwa [show (F.restTo ks k).n * (F.restTo ks k).S = N from hN.out.symm] at this
    have a3 : wr.cell? ⟨L.p, 3, none⟩ = some (.slice (some ⟨L.cb, 0, none⟩) N L.k2) := by have := hr2.c3; rwa [show (F.restTo ks k).n * (F.restTo ks k).S = N from hN.out.symm] at this
    have a4 : wr.cell? ⟨L.p, 4, none⟩ = some (.slice (some ⟨L.bb, 0, none⟩) n L.k3) := by have := hr2.c4; rwa [show (F.restTo ks k).n = n from hn.out.symm] at this
    have hxr := ins_turn' hx ht2 hxm
    clear c6 c7 f6 f7 h
    by_cases hlt : k < N
    · have hkN : k < (F.restTo ks k).n * (F.restTo ks k).S := by rw [show (F.restTo ks k).n * (F.restTo ks k).S = N from hN.out.symm]; omega
      have l0 := hr2.cl.cell hkN
      have q0 := hr2.cc.cell hkN
      have fl0 := hr2.cl.free k
      have fq0 := hr2.cc.free k
      have A := hr2.apart
      have n1 := A.pl
      have n2 := Ne.symm A.pl
      have n3 := A.lc
      have n4 := Ne.symm A.lc
      have i0 : (0 : Int) ≤ (k : Int) := Int.natCast_nonneg _
      have i1 : (k : Int) < (N : Int) := by omega
      have hC := hr2.cach k hkN
      have eC : (F.restTo ks k).C k = F.C k := by show (if k < k then none else F.C k) = _; rw [if_neg (by omega)]
      have eL : (F.restTo ks k).L k = F.L k := by show (if k < k ∧ F.stays ks k = true then F.rd k else F.L k) = _; rw [if_neg (by omega)]
      rw [eC] at hC
      have hrk := rank_le F.C k
      have hrs := rank_succ F.C k
      obtain ⟨vl, hvl⟩ : ∃ v, Hid (v = fl2 k) := ⟨_, Lib.hid rfl⟩
      rw [← hvl.out] at l0
      rcases hC with ⟨e0, e1⟩ | ⟨zs, e0, hsl⟩
      · rw [e1] at q0
        have hrs' : Hid (rank F.C (k + 1) = rank F.C k) := by unfold Hid; rw [hrs, e0]; rfl
        have hst : F.stays ks k = false := by simp [Rf.stays, e0]
        have hnext : Hid (RefD wr M L (F.restTo ks (k + 1)) fl2 fc2) := by
          refine hr2.congr rfl rfl rfl rfl (fun j _ => ?_) (fun j _ => ?_) (fun _ _ => rfl) (fun _ _ => rfl) hr2.bigc
          · rw [restTo_L F]; unfold atI
            by_cases e : j = k
            · subst e; rw [if_pos rfl, eL, hst]; rfl
            · rw [if_neg e]
          · rw [restTo_C F]; unfold atI
            by_cases e : j = k
            · subst e; rw [if_pos rfl, eC, e0]
            · rw [if_neg e]
        clear hr2 e0 e1 eC eL A hvl hrs hst hx hxr
        go_wp2_with (fail)
        go_roundw
        case rel => exact ⟨k + 1, by omega, by go_num, by rw [hrs'.out], ⟨fl2, fc2, hnext.out⟩, ht2⟩
        case measure => simp [intOf]; omega
      · obtain ⟨g, cg, e1, hg, hy⟩ := hsl
        rw [e1] at q0
        have hrs' : Hid (rank F.C (k + 1) = rank F.C k + 1) := by unfold Hid; rw [hrs, e0]; rfl
        have hd2 : ∀ nq, RefD (wr.drewN nq) M L (F.restTo ks k) fl2 fc2 := fun nq => hr2.keep (Turn.of_below (M := fun _ => False) (below_drewN (Below.refl _ _) nq)) (fun _ x => x.elim) (fun _ _ x => x)
        have hyes : F.stays ks k = true → Hid (∀ nq, RefAt (((wr.drewN nq).drew.setCell ⟨L.lb, k, none⟩ (.slice (some ⟨g, 0, none⟩) 64 cg)).setCell ⟨L.cb, k, none⟩ (.slice none 0 0)) M L (F.restTo ks (k + 1)) ∧ Turn L.M w (((wr.drewN nq).drew.setCell ⟨L.lb, k, none⟩ (.slice (some ⟨g, 0, none⟩) 64 cg)).setCell ⟨L.cb, k, none⟩ (.slice none 0 0))) := by
          intro hst nq
          have hd3 : RefD (wr.drewN nq).drew M L (F.restTo ks k) fl2 fc2 := (hd2 nq).keep (turn_drew (fun _ => False) _) (fun _ x => x.elim) (fun _ _ x => x)
          have h1 := hd3.setL hkN (.slice (some ⟨g, 0, none⟩) 64 cg) zs ⟨g, cg, rfl, hg, ⟨hy.len, hy.small, hy.place⟩⟩
          have h2 := h1.setC hkN (.slice none 0 0) none (.inl ⟨rfl, rfl⟩)
          refine ⟨⟨_, _, h2.congr rfl rfl rfl rfl (fun j _ => ?_) (fun j _ => ?_) (fun _ _ => rfl) (fun _ _ => rfl) hr2.bigc⟩, ?_⟩
          · rw [restTo_L F, if_pos hst, show F.rd k = zs by simp [Rf.rd, e0]]
          · rw [restTo_C F]
          · exact (((ht2.trans (Turn.of_below (below_drewN (Below.refl _ _) nq))).trans (turn_drew _ _)).trans ((turn_set _ L.lb k _).mono fun j e => e ▸ L.M_lb)).trans ((turn_set _ L.cb k _).mono fun j e => e ▸ L.M_cb)
        have hno : F.stays ks k = false → Hid (∀ nq, RefAt ((wr.drewN nq).setCell ⟨L.cb, k, none⟩ (.slice none 0 0)) M L (F.restTo ks (k + 1)) ∧ Turn L.M w ((wr.drewN nq).setCell ⟨L.cb, k, none⟩ (.slice none 0 0))) := by
          intro hst nq
          have h2 := (hd2 nq).setC hkN (.slice none 0 0) none (.inl ⟨rfl, rfl⟩)
          refine ⟨⟨_, _, h2.congr rfl rfl rfl rfl (fun j _ => ?_) (fun j _ => ?_) (fun _ _ => rfl) (fun _ _ => rfl) hr2.bigc⟩, ?_⟩
          · rw [restTo_L F, hst]; unfold atI
            by_cases e : j = k
            · subst e; rw [if_pos rfl]; exact eL.symm
            · rw [if_neg e]
          · rw [restTo_C F]
          · exact (ht2.trans (Turn.of_below (below_drewN (Below.refl _ _) nq))).trans ((turn_set _ L.cb k _).mono fun j e => e ▸ L.M_cb)
        obtain ⟨d, hd⟩ : ∃ d : Nat, (k : Int) / (S : Int) = (d : Int) := ⟨k / S, by simp⟩
        have hkb2 : (k : Int) ≤ 100000 := by omega
        have hdk : d = k / S := by
          have h0 : ((k / S : Nat) : Int) = (d : Int) := by rw [Int.natCast_ediv]; exact hd
          omega
        have hS0 : ¬ S = 0 := by omega

        have hd' : (k : Int).tdiv (S : Int) = (d : Int) := by rw [← hd]; exact Int.tdiv_eq_ediv_of_nonneg (by omega)
        have hdn : d < n := by
          rw [hdk, hn.out]
          have h1 : k < F.n * S := by rw [hS.out, ← hN.out]; exact hlt
          exact (Nat.div_lt_iff_lt_mul (by omega)).2 h1
        have b0 := hr2.cb.cell (k := d) (by rw [show (F.restTo ks k).n = n from hn.out.symm]; exact hdn)
        have hst : F.stays ks k = (keptB ks (rank F.C k) && !F.bad d) := by simp [Rf.stays, e0, hdk, ← hS.out]
        have i2 : (0 : Int) ≤ (d : Int) := Int.natCast_nonneg _
        have i3 : (d : Int) < (n : Int) := by omega
        have hn17 : (n : Int) ≤ 17 := by have := few; rw [← hn.out] at this; omega
        have hdw : IntKind.i64.wrap (d : Int) = (d : Int) := IntWalk.i64_in _ (by omega)
        obtain ⟨r, hr⟩ : ∃ r, Hid (r = rank F.C k) := ⟨_, Lib.hid rfl⟩
        rw [← hr.out] at hst hrk ⊢
        have hbd : (F.restTo ks k).bad d = F.bad d := rfl
        simp only [hbd] at b0
        generalize hbv : F.bad d = bv at b0 hst
        clear hr2 e0 e1 eC eL A hvl hrs hbv hbd hdk hd2 hy
        by_cases hl0 : l = 0
        · have hno' := hno (by rw [hst]; simp [keptB, hxr.1, hl0])
          subst hl0
          clear hst hyes hno hx hxr hxm
          go_wp2_with (fail)
          go_quiet (fail)
          go_wp2_with (fail)
          go_roundw
          case rel => exact ⟨k + 1, by omega, by go_num, by rw [hrs'.out, ← hr.out]; go_num, (hno'.out nq).1, (hno'.out nq).2⟩
          case measure => simp [intOf]; omega
        · rcases hxr.2 with h0 | ⟨bk, ok, rfl, _, hck⟩
          · omega
          have hm : r % l < l := Nat.mod_lt _ (by omega)
          have hcz := hck (r % l) hm
          obtain ⟨z, hz⟩ : ∃ z, z = ks.getD (r % l) 0 := ⟨_, rfl⟩
          rw [← hz] at hcz
          have hkb : keptB ks r = (z.tmod 2 != 0) := by
            unfold keptB
            rw [hxr.1, ← hz, show decide (0 < l) = true by simp; omega, Bool.true_and]
          rw [hkb] at hst
          obtain ⟨m, hmm⟩ : ∃ m : Nat, (r : Int) % (l : Int) = (m : Int) := ⟨r % l, by simp⟩
          have hmr : m = r % l := by
            have h0 : ((r % l : Nat) : Int) = (m : Int) := by rw [Int.natCast_emod]; exact hmm
            omega
          have hmt : (r : Int).tmod (l : Int) = (m : Int) := by rw [← hmm]; exact Int.tmod_eq_emod_of_nonneg (by omega)
          rw [← hmr] at hcz
          have i4 : (0 : Int) ≤ (m : Int) := Int.natCast_nonneg _
          have i5 : (m : Int) < (l : Int) := by omega
          have i6 : (1 : Int) ≤ (l : Int) := by omega
          have hlb : decide (0 < l) = true := by simp; omega
          rcases bit_tmod z with ⟨hb1, hb2⟩ | ⟨hb1, hb2⟩
          · rw [hb2] at hst
            cases bv with
            | true =>
              have hno' := hno (by rw [hst]; rfl)
              clear hst hyes hno hx hxr hxm hck hz hkb hb2 hmr hm
              go_wp2_with (fail)
              go_quiet (fail)
              go_wp2_with (fail)
              go_roundw
              case rel => exact ⟨k + 1, by omega, by go_num, by rw [hrs'.out, ← hr.out]; go_num, (hno'.out nq).1, (hno'.out nq).2⟩
              case measure => simp [intOf]; omega
            | false =>
              have hyes' := hyes (by rw [hst]; rfl)
              clear hst hyes hno hx hxr hxm hck hz hkb hb2 hmr hm
              go_wp2_with (fail)
              go_quiet (fail)
              go_wp2_with (fail)
              have hyq := hyes'.out nq
              have d2 : (wr.drewN nq).cell? ⟨L.p, 2, none⟩ = some (.slice (some ⟨L.lb, 0, none⟩) N L.k1) := by simpa using a2
              have d3 : (wr.drewN nq).cell? ⟨L.p, 3, none⟩ = some (.slice (some ⟨L.cb, 0, none⟩) N L.k2) := by simpa using a3
              have dl : (wr.drewN nq).cell? ⟨L.lb, k, none⟩ = some vl := by simpa using l0
              have dq : (wr.drewN nq).cell? ⟨L.cb, k, none⟩ = some (.slice (some ⟨g, 0, none⟩) 64 cg) := by simpa using q0
              have dfl : (wr.drewN nq).frozen? ⟨L.lb, k, none⟩ = false := by simpa using fl0
              have dfq : (wr.drewN nq).frozen? ⟨L.cb, k, none⟩ = false := by simpa using fq0
              clear hyes' a1 a2 a3 a4 l0 q0 fl0 fq0 b0 ht2
              generalize wr.drewN nq = wd at *
              go_still_tail 13, (by kernel_rfl)
              change wpList _ _ _ _ _ wd.drew
              go_wp2_with (fail)
              go_roundw
              case rel => exact ⟨k + 1, by omega, by go_num, by rw [hrs'.out, ← hr.out]; go_num, hyq.1, hyq.2⟩
              case measure => simp [intOf]; omega
          · have hno' := hno (by rw [hst, hb2]; rfl)
            clear hst hyes hno hx hxr hxm hck hz hkb hb2 hmr hm
            go_wp2_with (fail)
            go_quiet (fail)
            go_wp2_with (fail)
            go_roundw
            case rel => exact ⟨k + 1, by omega, by go_num, by rw [hrs'.out, ← hr.out]; go_num, (hno'.out nq).1, (hno'.out nq).2⟩
            case measure => simp [intOf]; omega
    · obtain rfl : k = N := by omega
      clear hx hxr
      go_wp2_with (fail)
      go_end0
      rw [hfin.out]
      exact ⟨rfl, ⟨fl2, fc2, hr2⟩, ht2⟩

end Go.Proofs.Ytcgemckookefmaa
