/-
  'restore' of a disk, by contract.
-/
import Derived.Test.YtoiidhpohghiaaaKeys
import Derived.Test.YtoiidhpohghiaaaFlush
import Derived.StillTailTactics
namespace Go.Proofs.Ytoiidhpohghiaaa
open Go.RowKit Go.Maps

/-- Does this sector's cached content last? -/
def Dk.stays (d : Dk) (ks : List Int) (num s : Nat) : Bool := (d.cache s).isSome && (!d.bad && keptB ks (num + rank d.cache s))
def Dk.rest (d : Dk) (ks : List Int) (num s : Nat) : List Int := if d.stays ks num s then d.read s else sec d.last s
/-- A disk behind Restore, its first cached sector having this number. -/
def Dk.restore (S : Nat) (d : Dk) (ks : List Int) (num : Nat) : Dk := { d with last := joinS S (d.rest ks num), cache := noneC }

/-- The sectors behind the first k of the cached ones. -/
def Half2 (S : Nat) (d : Dk) (ks : List Int) (num k : Nat) (L : List Int) : Prop := ∀ s, s < S → sec L s = if d.stays ks num s && decide (rank d.cache s < k) then d.read s else sec d.last s

theorem Half2.start (S : Nat) (d : Dk) (ks : List Int) (num : Nat) : Half2 S d ks num 0 d.last := fun s _ => by simp
theorem Half2.skip {S : Nat} {d : Dk} {ks : List Int} {num k s : Nat} {L : List Int} (h : Half2 S d ks num k L) (hs : s < S) (hr : rank d.cache s = k) (hc : (d.cache s).isSome = true) (hn : d.stays ks num s = false) : Half2 S d ks num (k + 1) L := fun t ht => by
  rw [h t ht]
  by_cases e : t = s
  · subst e
    rw [hn]
    rfl
  · cases hct : (d.cache t).isSome with
    | false => simp [Dk.stays, hct]
    | true =>
      have hne : rank d.cache t ≠ k := fun hk => by
        have h1 := cN_rank ht hct
        have h2 := cN_rank hs hc
        rw [hk, ← hr, h2] at h1
        exact e h1.symm
      have : (decide (rank d.cache t < k + 1)) = decide (rank d.cache t < k) := decide_eq_decide.2 (by omega)
      rw [this]
theorem Half2.step {S : Nat} {d : Dk} {ks : List Int} {num k s : Nat} {L zs : List Int} (h : Half2 S d ks num k L) (hl : L.length = S * 64) (hs : s < S) (hz : zs.length = 64) (hr : rank d.cache s = k) (hc : d.cache s = some zs) (hn : d.stays ks num s = true) :
    Half2 S d ks num (k + 1) (upd L s zs) := fun t ht => by
  by_cases e : t = s
  · subst e
    rw [sec_same hl hs hz, hn, hr]
    simp [Dk.read, hc]
  · rw [sec_other hl hs ht hz e, h t ht]
    cases hct : (d.cache t).isSome with
    | false => simp [Dk.stays, hct]
    | true =>
      have hne : rank d.cache t ≠ k := fun hk => by
        have h1 := cN_rank ht hct
        have h2 := cN_rank hs (show (d.cache s).isSome = true by rw [hc]; rfl)
        rw [hk, ← hr, h2] at h1
        exact e h1.symm
      have : (decide (rank d.cache t < k + 1)) = decide (rank d.cache t < k) := decide_eq_decide.2 (by omega)
      rw [this]
theorem Dk.rest_len {w : World} {M : Nat → Prop} {S db o lb mb s : Nat} {d : Dk} (h : DrvAt w M S db o lb mb d) (ks : List Int) (num : Nat) (hs : s < S) : (d.rest ks num s).length = 64 ∧ AllB (d.rest ks num s) := by
  unfold Dk.rest
  split
  · exact Dk.read_len h hs
  · exact ⟨sec_len h.len hs, h.small.sec s⟩
theorem Half2.done {w : World} {M : Nat → Prop} {S db o lb mb : Nat} {d : Dk} {ks : List Int} {num : Nat} {L : List Int} (hd : DrvAt w M S db o lb mb d) (h : Half2 S d ks num (rank d.cache S) L) (hl : L.length = S * 64) : L = joinS S (d.rest ks num) := by
  have hj : ∀ s, s < S → (d.rest ks num s).length = 64 := fun s hs => (Dk.rest_len hd ks num hs).1
  refine sec_ext hl (joinS_len hj) fun s hs => ?_
  rw [sec_join hj hs, h s hs]
  unfold Dk.rest
  cases hst : d.stays ks num s with
  | false => rfl
  | true =>
    have hc : (d.cache s).isSome = true := by
      unfold Dk.stays at hst
      simp at hst
      exact hst.1
    have := rank_lt hs hc
    simp [this]

theorem turn_drew (M : Nat → Prop) (w : World) : Turn M w w.drew := ⟨rfl, rfl, rfl, Nat.le_refl _, fun _ _ _ => rfl⟩
theorem Blk.drew {w : World} {g : Nat} {zs : List Int} (h : Blk w g zs) : Blk w.drew g zs := ⟨h.row⟩

set_option maxRecDepth 100000 in
set_option maxHeartbeats 1000000 in
theorem restore_any (M : Nat → Prop) (S db o lb mb n c num : Nat) (a : Option Addr) (ks : List Int) (d : Dk) (w : World) (h : DrvAt w M S db o lb mb d) (hx : Ins w a n ks) (hxm : n = 0 ∨ ∀ b off, a = some ⟨b, off, none⟩ → ¬ M b)
    (h1 : lb ≠ mb) (h2 : db ≠ lb) (h3 : db ≠ mb) (m1 : M lb) (hS : S ≤ 4096) (hn : n ≤ 1000000000000) (hnum : num ≤ 1000000000) :
    Calls Try.prog 45 #[.pointer (some ⟨db, o, none⟩), .slice a n c, .int .i64 num] w fun e w' => e = .returned (.int .i64 (rank d.cache S)) ∧ Turn (Own2 lb mb) w w' ∧ DrvAt w' M S db o lb mb (d.restore S ks num) := by
  obtain ⟨nn, D, hc⟩ := h.cache
  have c0 := h.c0
  have c1 := h.c1
  have hdb := h.lt
  have hlb := h.blk.lt
  have hmb := hc.own.lt
  obtain ⟨N, hN⟩ : ∃ N, N = rank d.cache S := ⟨_, rfl⟩
  have hrk : N ≤ 4096 := by have := rank_le d.cache S; omega
  rw [← hN]
  have hsort := fun (Bm : Nat) (w : World) (h : CacheD w M S mb d.cache nn D) (hB : Bm < w.heap.size) (hm : w.cell? ⟨Bm, 0, none⟩ = some (.map (some mb))) => sorted_any M S mb nn Bm d.cache D w h hS hB hm
  rw [← hN] at hsort
  have HN : Hid (N = rank d.cache S) := hN
  clear hN
  obtain ⟨bad, hbad⟩ : ∃ x, x = d.bad := ⟨_, rfl⟩
  have c2 := h.c2
  rw [← hbad] at c2
  have HB : Hid (bad = d.bad) := hbad
  clear hbad
  go_enter Try.func45, Try.ntmps45
  go_wp2_with (go_at_call 55; refine (keys_any (some mb) w).mono ?_; rintro e w' ⟨rfl, rfl⟩)
  have hw0 : Below w.heap.size w (w.alloc (.cells #[.map (some mb)] 68)) := (Below.refl _ _).alloc (Nat.le_refl _) _
  have hca : CacheD (w.alloc (.cells #[.map (some mb)] 68)) M S mb d.cache nn D := hc.turn (Turn.of_below hw0) (hw0.block mb hmb)
  go_wp2_with (go_at_call 54; refine (hsort w.heap.size _ hca (by simp) (by simp)).mono ?_)
  rintro e w1 ⟨a1, cc, rfl, hks, hnew, hb1⟩
  have hbl : Below w.heap.size w w1 := hw0.trans (hb1.mono (by simp))
  have hnew' : ∀ b off, a1 = some ⟨b, off, none⟩ → w.heap.size ≤ b := fun b off e => by have := hnew b off e; simp at this; omega
  clear hb1 hnew hw0 hca hsort
  go_wp2_with (fail)
  go_loopw [18] (fun i wr => ∃ (k : Nat) (L : List Int), k ≤ N ∧ i = .int .i64 k ∧ Turn (· = lb) w wr ∧ Blk wr lb L ∧ L.length = S * 64 ∧ AllB L ∧ Half2 S d ks num k L ∧ Ins wr a1 N (cZ S d.cache))
    (fun i _ => N - (intOf i).toNat)
  case atStart =>
    exact ⟨0, d.last, Nat.zero_le _, rfl, Turn.of_below hbl, h.blk.below hlb hbl, h.len, h.small, Half2.start S d ks num, hks⟩
  case round =>
    obtain ⟨k, L, hk, rfl, ht, hb, hl, hsm, hH, hks2⟩ := hrel
    have hcr : CacheD wr M S mb d.cache nn D := hc.turn (ht.mono fun k e => by rw [e]; exact m1) (ht.block mb hmb (Ne.symm h1))
    have a0 := (ht.cell (a := ⟨db, o, none⟩) hdb h2).trans c0
    have a1' := (ht.cell (a := ⟨db, o + 1, none⟩) hdb h2).trans c1
    have a2 := (ht.cell (a := ⟨db, o + 2, none⟩) hdb h2).trans c2
    have hxr : Ins wr a n ks := ins_turn' hx ht (hxm.imp id fun hxm b off e x => by have := hxm b off e; rw [x] at this; exact this m1)
    clear c0 c1 c2
    by_cases hlt : k < N
    · have hlt' : k < rank d.cache S := by have := HN.out; omega
      obtain ⟨s, hs, hcs, hr⟩ := cN_at hlt'
      obtain ⟨zs, hzs⟩ := Option.isSome_iff_exists.1 hcs
      have hcell : ∃ b off, a1 = some ⟨b, off, none⟩ ∧ wr.cell? ⟨b, off + k, none⟩ = some (.int .i64 (s : Int)) := by
        rcases hks2.2 with h0 | ⟨b, off, ha, _, hcc⟩
        · omega
        · refine ⟨b, off, ha, ?_⟩
          rw [hcc k hlt, ← hr, cZ_rank hs hcs]
      obtain ⟨ga, goff, rfl, hcell'⟩ := hcell
      clear hlt'
      have hH' : Hid (Half2 S d ks num k L) := hH
      have hr' : Hid (rank d.cache s = k) := hr
      have hzs' : Hid (d.cache s = some zs) := hzs
      have hcs' : Hid ((d.cache s).isSome = true) := hcs
      clear hH hr hzs hcs
      cases bad with
      | true =>
        have hst : Hid (d.stays ks num s = false) := by
          unfold Hid Dk.stays
          rw [← HB.out]
          simp
        go_wp2_with (fail)
        go_roundw
        case rel => exact ⟨k + 1, L, by omega, by go_num, ht, hb, hl, hsm, hH'.out.skip hs hr'.out hcs'.out hst.out, hks2⟩
        case measure => simp [intOf]; omega
      | false =>
        have hkept := kept_any a n c (num + k) ((num : Int) + (k : Int)) ks wr hxr (by omega) (by omega) hn
        cases hkb : keptB ks (num + k) with
        | false =>
          rw [hkb] at hkept
          have hst : Hid (d.stays ks num s = false) := by
            unfold Hid Dk.stays
            rw [hr'.out, hkb]
            simp
          clear hkb
          go_wp2_with (go_at_call 56; refine hkept.mono ?_; rintro e w' ⟨rfl, rfl⟩)
          go_roundw
          case rel => exact ⟨k + 1, L, by omega, by go_num, ht, hb, hl, hsm, hH'.out.skip hs hr'.out hcs'.out hst.out, hks2⟩
          case measure => simp [intOf]; omega
        | true =>
          rw [hkb] at hkept
          have hst : Hid (d.stays ks num s = true) := by
            unfold Hid Dk.stays
            rw [hr'.out, hkb, hcs'.out, ← HB.out]
            rfl
          have hcd : CacheD wr.drew M S mb d.cache nn D := hcr.turn (turn_drew M wr) rfl
          obtain ⟨g, cv, hg, hy, hrun⟩ := hcd.look2 hS hs hzs'.out
          have hlo := lastingOf_any db o lb s S wr.drew a0 hs hS
          have hbd : Blk wr.drew lb L := hb.drew
          clear hkb
          go_wp2_with (go_at_call 56; refine hkept.mono ?_; rintro e w' ⟨rfl, rfl⟩)
          go_still_tail 9, (by kernel_rfl)
          still_call (hlo.mono fun e w'' ⟨he, hw⟩ => ⟨he, hw.symm⟩)
          repeat still_step
          refine wpStill_nil ?_
          change wpList _ _ _ _ _ wr.drew
          go_wp2_with ((with_reducible refine wpList_cps rfl (.tmp 37) (.tmp 43) rfl lb s S _ g 0 cv rfl rfl L zs hbd hl hs hy ?_); intro w2 hb2 ht2; go_frame)
          have t2 := (ht.trans (turn_drew _ wr)).trans ht2
          have hks3 : Ins w2 (some ⟨ga, goff, none⟩) N (cZ S d.cache) := ins_turn (ins_turn hks2 (turn_drew _ wr) (M := (· = lb)) (fun b off e x => by have := hnew' b off e; omega)) ht2 (fun b off e x => by have := hnew' b off e; omega)
          have hz := hy.len
          have hzs2 := hy.small
          go_roundw
          case rel => exact ⟨k + 1, _, by omega, by go_num, t2, hb2, upd_len hl hs hz, hsm.upd hzs2 s, hH'.out.step hl hs hz hr'.out hzs'.out hst.out, hks3⟩
          case measure => simp [intOf]; omega
    · obtain rfl : k = N := by omega
      obtain ⟨w2, hclm, hown2, hturn2⟩ := run_clear_map hcr.own Try.underlying68
      go_wp2_with (simp only [hclm])
      go_ret
      have t3 := turn_map hturn2
      have hl1 : db < wr.heap.size := Nat.lt_of_lt_of_le hdb ht.size
      have eL : L = joinS S (d.rest ks num) := by
        have e := HN.out
        subst e
        exact hH.done h hl
      refine ⟨rfl, (ht.mono fun k e => .inl e).trans (t3.mono fun k e => .inr e), (t3.cell (a := ⟨db, o, none⟩) hl1 h3).trans a0, (t3.cell (a := ⟨db, o + 1, none⟩) hl1 h3).trans a1', ?_, ?_, ?_, ?_, ?_, CacheAt.empty hown2, h.big⟩
      · exact (t3.cell (a := ⟨db, o + 2, none⟩) hl1 h3).trans ((ht.cell (a := ⟨db, o + 2, none⟩) hdb h2).trans h.c2)
      · exact (t3.cell (a := ⟨db, o + 3, none⟩) hl1 h3).trans ((ht.cell (a := ⟨db, o + 3, none⟩) hdb h2).trans h.c3)
      · rw [Dk.restore, ← eL]; exact hb.turn t3 h1
      · rw [Dk.restore, ← eL]; exact hl
      · rw [Dk.restore, ← eL]; exact hsm

end Go.Proofs.Ytoiidhpohghiaaa
