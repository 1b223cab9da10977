/-
  The stripe's small questions, by contract.
-/
import Derived.Test.YtciddoeeiamndaaGreatSt
import Derived.Test.YtciddoeeiamndaaGreatGb
import Derived.Test.YtciddoeeiamndaaGreatHa
import Derived.Test.YtciddoeeiamndaaGreatRowO
import Derived.Deep.AppendLies
namespace Go.Proofs.YtciddoeeiamndaaGreat
open Go.RowKit Go.Maps
set_option linter.unusedVariables false

/-- Is there such a segment? -/
noncomputable def segO (B : Bn) (g : Int) : Bool := open Classical in decide (Sg B.d B.r B.s g)
noncomputable def bkO (B : Bn) (g k : Int) : Bool := open Classical in decide (Bk B.d B.r B.s g k)
noncomputable def spD (B : Bn) (g k : Int) : Int := if bkO B g k then BD B.d (g * B.r + k / (B.d - 1)) (k % (B.d - 1)) else 0
noncomputable def spS (B : Bn) (g k : Int) : Int := if bkO B g k then 5 + (g * B.r + k / (B.d - 1)) else 0
theorem block_all (B : Bn) (g k : Int) (w : World) :
    Calls Tryz.prog 112 #[gv B.d B.r B.s, .int .i64 g, .int .i64 k] w fun e w' => e = .returned (sv (spD B g k) (spS B g k) (bkO B g k)) ∧ Below w.heap.size w w' := by
  classical
  unfold spD spS bkO
  by_cases h : Bk B.d B.r B.s g k
  · rw [decide_eq_true h, if_pos rfl, if_pos rfl]
    exact block_yes B.d B.r B.s g k w h.toSg h.k0 h.k1
  · rw [decide_eq_false h, if_neg (by simp), if_neg (by simp)]
    exact block_no B.d B.r B.s g k w h
theorem bkO_zero (B : Bn) (g : Int) : bkO B g 0 = segO B g := by
  classical
  unfold bkO segO
  by_cases h : Sg B.d B.r B.s g
  · rw [decide_eq_true h]
    exact decide_eq_true ⟨h, by omega, by have := (PL_bd h.d1 h.d2 h.r1 h.r2).1; omega⟩
  · rw [decide_eq_false h]
    exact decide_eq_false fun x => h x.toSg

section
variable {M : Nat → Prop} {L : Lay} {R : Rk} {w : World} {b : Nat} {B : Bn}
theorem boff_any (hr : RackAt w M L R) (hb : BnAt w b L.p B) :
    Calls Tryz.prog 107 #[.pointer (some ⟨b, 0, none⟩)] w fun e w' => e = .returned (.bool R.off) ∧ w' = w := by
  have c0 := hb.c0
  have hf := off_rack M L R w hr
  clear hr hb
  go_enter Tryz.func107, Tryz.ntmps107
  go_wp2_with (go_at_call 139; refine hf.mono ?_; rintro e w' ⟨rfl, rfl⟩)
  go_ret
  exact ⟨rfl, rfl⟩
/-- What check answers. -/
def chkE (R : Rk) (ok : Bool) : Int := if ok then (if R.off then 12 else 0) else 28
theorem check_any (ok : Bool) (hr : RackAt w M L R) (hb : BnAt w b L.p B) :
    Calls Tryz.prog 62 #[.pointer (some ⟨b, 0, none⟩), .bool ok] w fun e w' => e = .returned (.int .i64 (chkE R ok)) ∧ w' = w := by
  unfold chkE
  have hf := boff_any hr hb
  clear hr hb
  cases ok with
  | false =>
    go_enter Tryz.func62, Tryz.ntmps62
    go_wp2_with (fail)
    go_ret
    exact ⟨rfl, rfl⟩
  | true =>
    cases ho : R.off with
    | false =>
      rw [ho] at hf
      go_enter Tryz.func62, Tryz.ntmps62
      go_wp2_with (go_at_call 107; refine hf.mono ?_; rintro e w' ⟨rfl, rfl⟩)
      go_ret
      exact ⟨rfl, rfl⟩
    | true =>
      rw [ho] at hf
      go_enter Tryz.func62, Tryz.ntmps62
      go_wp2_with (go_at_call 107; refine hf.mono ?_; rintro e w' ⟨rfl, rfl⟩)
      go_ret
      exact ⟨rfl, rfl⟩
theorem spotOf_any (g k : Int) (hb : BnAt w b L.p B) :
    Calls Tryz.prog 67 #[.pointer (some ⟨b, 0, none⟩), .int .i64 g, .int .i64 k] w fun e w' => e = .returned (sv (spD B g k) (spS B g k) (bkO B g k)) ∧ Below w.heap.size w w' := by
  obtain ⟨W1, hW1⟩ : ∃ W1, W1 = w.alloc (.cells #[.int .i64 0, .int .i64 0] 116 (0, 0)) := ⟨_, rfl⟩
  have hs1 : Sx W1 w.heap.size := by rw [hW1]; exact Sx.mk' w _ _ _
  have hB1 : Below w.heap.size w W1 := by rw [hW1]; exact (Below.refl _ _).alloc (Nat.le_refl _) _
  have hg := geo_any (hb.next hB1)
  have hk := block_all B g k
  obtain ⟨x, hx⟩ : ∃ x, x = spD B g k := ⟨_, rfl⟩
  obtain ⟨y, hy⟩ : ∃ y, y = spS B g k := ⟨_, rfl⟩
  rw [← hx, ← hy] at hk ⊢
  clear hb hx hy
  go_enter Tryz.func67, Tryz.ntmps67
  go_wp2_with (fail)
  rw [← hW1]
  refine hg.mono ?_
  rintro e w2 ⟨rfl, hb2⟩
  have hs2 := hs1.next hb2
  have hB2 := hB1.trans (hb2.mono hB1.size)
  clear hg hs1 hB1 hW1 hb2
  go_wp2_with (fail)
  refine (hk w2).mono ?_
  rintro e w3 ⟨rfl, hb3⟩
  have hs3 := hs2.next hb3
  have hB3 := hB2.trans (hb3.mono hB2.size)
  obtain ⟨_, ⟨v0, c0⟩, ⟨v1, c1⟩, f0, f1⟩ := hs3
  clear hk hs2 hB2 hb3
  go_wp2_with (fail)
  refine bodyPost_ret (v := sv x y (bkO B g k)) ?_ rfl ⟨rfl, ?_⟩
  · simp [results, Tryz.results67, go_sem, c0, c1]
  · exact (hB3.setCell (by simp) _).setCell (by simp) _
theorem shasSeg_any (g : Int) (hb : BnAt w b L.p B) :
    Calls Tryz.prog 51 #[.pointer (some ⟨b, 0, none⟩), .int .i64 g] w fun e w' => e = .returned (.bool (segO B g)) ∧ Below w.heap.size w w' := by
  have h := spotOf_any g 0 hb
  rw [bkO_zero] at h
  obtain ⟨x, hx⟩ : ∃ x, x = spD B g 0 := ⟨_, rfl⟩
  obtain ⟨y, hy⟩ : ∃ y, y = spS B g 0 := ⟨_, rfl⟩
  rw [← hx, ← hy] at h
  clear hb hx hy
  go_enter Tryz.func51, Tryz.ntmps51
  go_wp2_with (fail)
  refine h.mono ?_
  rintro e w1 ⟨rfl, hb1⟩
  go_wp2_with (fail)
  go_ret
  exact ⟨rfl, hb1.alloc hb1.size _⟩
set_option maxRecDepth 100000 in
theorem shasSlot_any (i : Int) (hb : BnAt w b L.p B) :
    Calls Tryz.prog 86 #[.pointer (some ⟨b, 0, none⟩), .int .i64 i] w fun e w' => e = .returned (.bool (hasSl B.d i)) ∧ Below w.heap.size w w' := by
  have hg := geo_any hb
  clear hb
  have hfd : ∀ (w : World) (p r s : Int), (Instr.field 41 (gv p r s) 0).run Tryz.prog w = .ok (.int .i64 p) w := fun _ _ _ _ => by kernel_rfl
  unfold hasSl
  by_cases h0 : 0 ≤ i
  · by_cases h1 : i < B.d
    · rw [decide_eq_true (⟨h0, h1⟩ : 0 ≤ i ∧ i < B.d)]
      go_enter Tryz.func86, Tryz.ntmps86
      go_wp2_with (go_at_call 53; refine hg.mono ?_; rintro e w1 ⟨rfl, hb1⟩)
      go_ret
      exact ⟨rfl, hb1⟩
    · rw [decide_eq_false (fun x : 0 ≤ i ∧ i < B.d => h1 x.2)]
      go_enter Tryz.func86, Tryz.ntmps86
      go_wp2_with (go_at_call 53; refine hg.mono ?_; rintro e w1 ⟨rfl, hb1⟩)
      go_ret
      exact ⟨by simp [h1], hb1⟩
  · rw [decide_eq_false (fun x : 0 ≤ i ∧ i < B.d => h0 x.1)]
    clear hg
    go_enter Tryz.func86, Tryz.ntmps86
    go_wp2_with (fail)
    go_ret
    exact ⟨rfl, Below.refl _ _⟩
/-- More slots bad than parity makes good? -/
def twoB (B : Bn) (R : Rk) (n : Nat) : Bool := decide (1 < (badL B R n).length)
theorem beyond_any {n : Nat} (hr : RackAt w M L R) (hb : BnAt w b L.p B) (hd : B.d = (n : Int)) (hn : n ≤ 16) :
    Calls Tryz.prog 54 #[.pointer (some ⟨b, 0, none⟩)] w fun e w' => e = .returned (.bool (twoB B R n)) ∧ Below w.heap.size w w' := by
  have h := bad_any M L R w b n B hr hb hd hn
  have hl := badL_len B R n
  unfold twoB
  obtain ⟨ks, hks⟩ : ∃ ks, ks = badL B R n := ⟨_, rfl⟩
  rw [← hks] at h hl ⊢
  clear hr hb hd hks
  obtain ⟨m, hm⟩ : ∃ m, m = ks.length := ⟨_, rfl⟩
  have h' : Calls Tryz.prog 63 #[.pointer (some ⟨b, 0, none⟩)] w fun e w' => ∃ a c, e = .returned (.slice a m c) ∧ Below w.heap.size w w' := h.mono fun e w' hh => by
    obtain ⟨v, rfl, ho, hb1⟩ := hh
    obtain ⟨a, c, rfl, _, _, _, _⟩ := ho.ins
    exact ⟨a, c, by rw [hm], hb1⟩
  rw [← hm] at hl ⊢
  clear h hm
  have hh : decide ((1 : Int) < m) = decide (1 < m) := by rw [decide_eq_decide]; omega
  go_enter Tryz.func54, Tryz.ntmps54
  go_wp2_with (go_at_call 63; refine h'.mono ?_; rintro e w1 ⟨a, c, rfl, hb1⟩)
  go_ret
  exact ⟨by simp, hb1⟩
end

end Go.Proofs.YtciddoeeiamndaaGreat

/-
  The stripe's reading of one sector, by contract: load, read.
-/
namespace Go.Proofs.YtciddoeeiamndaaGreat
open Go.RowKit Go.Maps
set_option linter.unusedVariables false

/-- A spot, as a value. -/
abbrev spV (i k : Int) : Value := .agg #[.int .i64 i, .int .i64 k]
theorem decn_any (a : Option Addr) (n c : Nat) (x : List Int) (w : World) (hx : Pin w a n c x) : Calls Tryz.prog 70 #[.slice a n c] w (DecNew w x) := by
  by_cases h : n = 64
  · subst h
    exact dec_yes a c x w hx
  · exact dec_no a n c x w hx h
theorem dec_any (a : Option Addr) (n c : Nat) (x : List Int) (w : World) (hx : Pin w a n c x) : Calls Tryz.prog 70 #[.slice a n c] w (DecPost w x) := (decn_any a n c x w hx).mono fun _ _ h => h.t
theorem restore_n (a : Option Addr) (n c : Nat) (f : Nat → Pc) (w : World) (h : Rws w a n f) (hn : n ≤ 9223372036854775807) :
    Calls Tryz.prog 113 #[.slice a n c] w (RetN w (parL f n) (oneSeq f n)) := by
  have hp := par_n a n c f w h hn
  clear h
  go_enter Tryz.func113, Tryz.ntmps113
  go_wp2_with (fail)
  refine hp.mono ?_
  rintro e w1 ⟨x, m, d, rfl, hp1, hlo, hb1⟩
  go_wp2_with (fail)
  go_ret2
  exact ⟨x, m, d, rfl, hp1, hlo, hb1⟩

section
variable {M : Nat → Prop} {L : Lay} {R : Rk} {w : World} {b : Nat} {B : Bn}
/-- What can be read is a sector. -/
theorem br_len (hr : RackAt w M L R) {i k : Int} (h : brE B R i k = 0) : (brV B R i k).length = 64 ∧ AllB (brV B R i k) := by
  unfold brE at h
  unfold brV
  by_cases hs : hasSl B.d i = true
  · rw [if_pos hs] at h ⊢
    unfold Rk.rdV
    rw [if_pos h]
    unfold Rk.rdE at h
    by_cases ho : R.off = true
    · rw [if_pos ho] at h; omega
    · rw [if_neg ho] at h
      by_cases hb : hasB R.n R.S (B.disk i) k = true
      · obtain ⟨x, y, e1, e2, hx, hy⟩ := hasB_nat hb
        rw [e1, e2, Int.toNat_natCast, Int.toNat_natCast]
        exact Dk.read_len (hr.drv x hx) hy
      · rw [if_neg hb] at h; omega
  · rw [if_neg hs] at h; omega
theorem br_nil {i k : Int} (h : ¬ brE B R i k = 0) : brV B R i k = [] := by
  unfold brE at h
  unfold brV
  by_cases hs : hasSl B.d i = true
  · rw [if_pos hs] at h ⊢
    unfold Rk.rdV
    rw [if_neg h]
  · rw [if_neg hs]
/-- Can a sector be read? -/
def ldO (B : Bn) (R : Rk) (i k : Int) : Bool := decide (brE B R i k = 0)
theorem br_dec (hr : RackAt w M L R) (i k : Int) : decO (brV B R i k) = ldO B R i k := by
  unfold decO ldO
  by_cases h : brE B R i k = 0
  · rw [decide_eq_true h, decide_eq_true (br_len hr h).1]
  · rw [decide_eq_false h, br_nil h]
    rfl
/-- What load leaves. -/
def LdPost (w : World) (zs : List Int) (q : Int) (ok : Bool) (e : Ending) (w' : World) : Prop :=
  ∃ a n c, e = .returned (.tuple #[.slice a n c, .int .i64 q, .bool ok]) ∧ Pin w' a n c zs ∧ (∀ x, a = some x → w.heap.size ≤ x.block) ∧ Below w.heap.size w w'
set_option maxRecDepth 100000 in
theorem sload_any (i k : Int) (hr : RackAt w M L R) (hb : BnAt w b L.p B) :
    Calls Tryz.prog 65 #[.pointer (some ⟨b, 0, none⟩), spV i k] w (LdPost w (brV B R i k) (decN (brV B R i k) 0 4) (ldO B R i k)) := by
  have hdo := br_dec (B := B) hr i k
  obtain ⟨W1, hW1⟩ : ∃ W1, W1 = w.alloc (.cells #[.int .i64 i, .int .i64 k] 116 (0, 0)) := ⟨_, rfl⟩
  have hB1 : Below w.heap.size w W1 := by rw [hW1]; exact (Below.refl _ _).alloc (Nat.le_refl _) _
  have d0 : W1.cell? ⟨w.heap.size, 0, none⟩ = some (.int .i64 i) := by rw [hW1]; simp
  have d1 : W1.cell? ⟨w.heap.size, 1, none⟩ = some (.int .i64 k) := by rw [hW1]; simp
  have hrd := bread_any i k (hr.below hB1) (hb.next hB1)
  unfold LdPost
  by_cases h : brE B R i k = 0
  · rw [h] at hrd
    rw [show ldO B R i k = true from decide_eq_true h] at hdo ⊢
    obtain ⟨zs, hzs⟩ : ∃ zs, zs = brV B R i k := ⟨_, rfl⟩
    rw [← hzs] at hrd hdo ⊢
    have HDO := Lib.hid hdo
    obtain ⟨q1, hq1⟩ : ∃ q, q = decN zs 0 4 := ⟨_, rfl⟩
    rw [← hq1]
    have HQ1 := Lib.hid hq1
    clear hdo hr hb h hzs hq1
    go_enter Tryz.func65, Tryz.ntmps65
    go_wp2_with (fail)
    rw [← hW1]
    clear hW1 d0 d1
    refine hrd.mono ?_
    rintro e w2 ⟨v, rfl, ho, hb2⟩
    obtain ⟨a, c, rfl, hp, hlo⟩ := ho.pin
    have hB2 := hB1.trans (hb2.mono hB1.size)
    have hlo' : Hid (∀ x, a = some x → w.heap.size ≤ x.block) := fun x hx => by have := (hlo x hx).1; have := hB1.size; omega
    have hdc := dec_any a zs.length c zs w2 hp
    obtain ⟨n, hn⟩ : ∃ n, n = zs.length := ⟨_, rfl⟩
    rw [← hn] at hp hdc ⊢
    clear hrd ho hlo hb2 hB1 hn
    go_wp2_with (fail)
    refine hdc.mono ?_
    rintro e w3 ⟨a3, n3, c3, rfl, hp3, hb3⟩
    rw [HDO.out, ← HQ1.out]
    have hp' := hp.next hb3
    have hB3 := hB2.trans (hb3.mono hB2.size)
    clear hdc hp hp3 hB2 hb3
    go_wp2_with (fail)
    go_quiet (fail)
    go_wp2_with (fail)
    go_ret3
    exact ⟨a, n, c, rfl, (hp'.alloc _).drewN _, hlo'.out, below_drewN (hB3.alloc hB3.size _) _⟩
  · have hv := br_nil h
    rw [hv] at hrd ⊢
    rw [show ldO B R i k = false from decide_eq_false h]
    obtain ⟨x, hx⟩ : ∃ x, x = brE B R i k := ⟨_, rfl⟩
    rw [← hx] at hrd h
    have hx0 : (x == 0) = false := by simpa using h
    clear hr hb hv hx h hdo
    go_enter Tryz.func65, Tryz.ntmps65
    go_wp2_with (fail)
    rw [← hW1]
    clear hW1 d0 d1
    refine hrd.mono ?_
    rintro e w2 ⟨v, rfl, ho, hb2⟩
    have hB2 := hB1.trans (hb2.mono hB1.size)
    clear hrd ho hB1 hb2
    go_wp2_with (fail)
    go_ret3
    exact ⟨none, 0, 0, rfl, Pin.zero _, (fun x hx => by cases hx), hB2⟩
/-- Can a sector be read, and has it this Seq? -/
def rdO (B : Bn) (R : Rk) (k q i : Int) : Bool := ldO B R i k && decide (decN (brV B R i k) 0 4 = q)
def rdL (B : Bn) (R : Rk) (k q i : Int) : List Int := if rdO B R k q i then brV B R i k else []
set_option maxRecDepth 100000 in
theorem sread_any (i k q : Int) (hr : RackAt w M L R) (hb : BnAt w b L.p B) :
    Calls Tryz.prog 68 #[.pointer (some ⟨b, 0, none⟩), spV i k, .int .i64 q] w (RetN w (rdL B R k q i) (rdO B R k q i)) := by
  unfold rdL rdO
  obtain ⟨W1, hW1⟩ : ∃ W1, W1 = w.alloc (.cells #[.int .i64 i, .int .i64 k] 116 (0, 0)) := ⟨_, rfl⟩
  have hB1 : Below w.heap.size w W1 := by rw [hW1]; exact (Below.refl _ _).alloc (Nat.le_refl _) _
  have d0 : W1.cell? ⟨w.heap.size, 0, none⟩ = some (.int .i64 i) := by rw [hW1]; simp
  have d1 : W1.cell? ⟨w.heap.size, 1, none⟩ = some (.int .i64 k) := by rw [hW1]; simp
  have hld := sload_any i k (hr.below hB1) (hb.next hB1)
  obtain ⟨zs, hzs⟩ : ∃ zs, zs = brV B R i k := ⟨_, rfl⟩
  obtain ⟨ok, hok⟩ : ∃ ok, ok = ldO B R i k := ⟨_, rfl⟩
  obtain ⟨q1, hq1⟩ : ∃ q, q = decN zs 0 4 := ⟨_, rfl⟩
  rw [← hzs, ← hok, ← hq1] at hld ⊢
  clear hr hb hzs hok hq1
  cases ok with
  | false =>
    rw [Bool.false_and, if_neg (by simp)]
    go_enter Tryz.func68, Tryz.ntmps68
    go_wp2_with (fail)
    rw [← hW1]
    clear hW1
    refine hld.mono ?_
    rintro e w2 ⟨a, n, c, rfl, hp, hlo, hb2⟩
    have hB2 := hB1.trans (hb2.mono hB1.size)
    clear hld hB1 hb2 d0 d1 hp hlo
    go_wp2_with (fail)
    go_ret2
    exact ⟨none, 0, 0, rfl, Pin.zero _, (fun x hx => by cases hx), hB2⟩
  | true =>
    by_cases h : q1 = q
    · rw [Bool.true_and, decide_eq_true h, if_pos rfl]
      go_enter Tryz.func68, Tryz.ntmps68
      go_wp2_with (fail)
      rw [← hW1]
      clear hW1
      refine hld.mono ?_
      rintro e w2 ⟨a, n, c, rfl, hp, hlo, hb2⟩
      have hB2 := hB1.trans (hb2.mono hB1.size)
      have HLO : Hid (∀ x, a = some x → w.heap.size ≤ x.block) := fun x hx => by have := hlo x hx; have := hB1.size; omega
      have HP := Lib.hid hp
      clear hld hB1 hb2 d0 d1 hp hlo
      go_wp2_with (fail)
      go_ret2
      exact ⟨a, n, c, rfl, HP.out, HLO.out, hB2⟩
    · rw [Bool.true_and, decide_eq_false h, if_neg (by simp)]
      have h' : (q1 == q) = false := by simpa using h
      have h2 : (q1 != q) = true := by simpa using h
      go_enter Tryz.func68, Tryz.ntmps68
      go_wp2_with (fail)
      rw [← hW1]
      clear hW1
      refine hld.mono ?_
      rintro e w2 ⟨a, n, c, rfl, hp, hlo, hb2⟩
      have hB2 := hB1.trans (hb2.mono hB1.size)
      clear hld hB1 hb2 d0 d1 hp hlo h
      go_wp2_with (fail)
      go_ret2
      exact ⟨none, 0, 0, rfl, Pin.zero _, (fun x hx => by cases hx), hB2⟩
end

end Go.Proofs.YtciddoeeiamndaaGreat

/-
  The stripe's restore, by contract.
-/
namespace Go.Proofs.YtciddoeeiamndaaGreat
open Go.RowKit Go.Maps
set_option linter.unusedVariables false

/-- The slots but x. -/
def skp (x j : Nat) : Nat := if j < x then j else j + 1
/-- What all slots but x tell. -/
def oth (B : Bn) (R : Rk) (k : Int) (x : Nat) : Nat → Pc := fun j => ⟨none, 0, 0, brV B R (skp x j : Nat) k⟩
/-- Can the first i slots but x be read, and have they this Seq? -/
def allO (B : Bn) (R : Rk) (k q : Int) (x : Nat) : Nat → Bool
  | 0 => true
  | i + 1 => allO B R k q x i && (decide (i = x) || rdO B R k q i)
def resO (B : Bn) (R : Rk) (k q : Int) (x n : Nat) : Bool := allO B R k q x n && oneSeq (oth B R k x) (n - 1)
def resL (B : Bn) (R : Rk) (k q : Int) (x n : Nat) : List Int := if resO B R k q x n then parL (oth B R k x) (n - 1) else []
theorem allO_no {B : Bn} {R : Rk} {k q : Int} {x i n : Nat} (h : i ≤ n) (ha : allO B R k q x i = false) : allO B R k q x n = false := by
  induction n with
  | zero => obtain rfl : i = 0 := by omega
            exact ha
  | succ n ih =>
    rcases Nat.lt_or_ge n i with h1 | h1
    · obtain rfl : i = n + 1 := by omega
      exact ha
    · rw [allO, ih h1, Bool.false_and]
theorem oneUpto_congr {f g : Nat → Pc} {n : Nat} (h : ∀ i, i < n → (f i).zs = (g i).zs) : oneUpto f n = oneUpto g n := by
  by_cases hg : oneUpto g n = true
  · rw [hg]
    refine oneUpto_of fun k hk => ?_
    rw [h k hk, h 0 (by omega)]
    exact oneUpto_at hk hg
  · by_cases hf : oneUpto f n = true
    · exfalso
      refine hg (oneUpto_of fun k hk => ?_)
      rw [← h k hk, ← h 0 (by omega)]
      exact oneUpto_at hk hf
    · cases h1 : oneUpto f n <;> cases h2 : oneUpto g n <;> simp_all
theorem oneSeq_congr {f g : Nat → Pc} {n : Nat} (h : ∀ i, i < n → (f i).zs = (g i).zs) : oneSeq f n = oneSeq g n := by
  unfold oneSeq
  rw [oneUpto_congr h]
theorem sumP_congr {f g : Nat → Pc} {n : Nat} (h : ∀ i, i < n → (f i).zs = (g i).zs) : sumP f n = sumP g n := by
  induction n with
  | zero => rfl
  | succ n ih => rw [sumP, sumP, ih fun i hi => h i (by omega), h n (by omega)]
theorem parL_congr {f g : Nat → Pc} {n : Nat} (h : ∀ i, i < n → (f i).zs = (g i).zs) : parL f n = parL g n := by
  unfold parL
  rw [oneSeq_congr h, sumP_congr h]
  by_cases h0 : n = 0
  · subst h0
    rfl
  · rw [h 0 (by omega)]

/-- How many of the first i slots are not x. -/
def cnt (x i : Nat) : Nat := if i ≤ x then i else i - 1
section
variable {M : Nat → Prop} {L : Lay} {R : Rk} {w : World} {b : Nat} {B : Bn}
/-- Between two rounds of restore. -/
structure RsI (w : World) (B : Bn) (R : Rk) (k q : Int) (x i : Nat) (v : Value) (f : Nat → Pc) (wr : World) : Prop where
  own : OwnR wr w.heap.size v (cnt x i) f
  all : allO B R k q x i = true
  zs : ∀ j, j < cnt x i → (f j).zs = brV B R (skp x j : Nat) k
  bel : Below w.heap.size w wr
theorem own_nilR (w : World) (B : Nat) (f : Nat → Pc) : OwnR w B (.slice none 0 0) 0 f := ⟨World.ownsRow_nil _ _ _ _, fun i hi => by omega, fun i hi => by omega⟩
set_option maxRecDepth 100000 in
set_option maxHeartbeats 4000000 in
theorem srestore_any {n x : Nat} (k q : Int) (hr : RackAt w M L R) (hb : BnAt w b L.p B) (hd : B.d = (n : Int)) (hn : n ≤ 16) (hx : x < n) :
    Calls Tryz.prog 69 #[.pointer (some ⟨b, 0, none⟩), spV x k, .int .i64 q] w (RetN w (resL B R k q x n) (resO B R k q x n)) := by
  obtain ⟨W1, hW1⟩ : ∃ W1, W1 = w.alloc (.cells #[.int .i64 x, .int .i64 k] 116 (0, 0)) := ⟨_, rfl⟩
  have hB1 : Below w.heap.size w W1 := by rw [hW1]; exact (Below.refl _ _).alloc (Nat.le_refl _) _
  have d0 : W1.cell? ⟨w.heap.size, 0, none⟩ = some (.int .i64 x) := by rw [hW1]; simp
  have d1 : W1.cell? ⟨w.heap.size, 1, none⟩ = some (.int .i64 k) := by rw [hW1]; simp
  have hl1 : w.heap.size < W1.heap.size := by rw [hW1]; simp
  obtain ⟨g, hg⟩ : ∃ g, g = w.heap.size := ⟨_, rfl⟩
  have hge := geo_any (hb.next hB1)
  have HR := Lib.hid hr
  have HB := Lib.hid hb
  have HG := Lib.hid hg
  rw [hd] at hge
  have hfd : ∀ (w : World) (p r s : Int), (Instr.field 41 (gv p r s) 0).run Tryz.prog w = .ok (.int .i64 p) w := fun _ _ _ _ => by kernel_rfl
  rw [← hg] at d0 d1 hl1
  go_enter Tryz.func69, Tryz.ntmps69
  go_wp2_with (fail)
  rw [← hW1, ← hg]
  clear hW1 hr hb hd hg
  refine hge.mono ?_
  rintro e w2 ⟨rfl, hb2⟩
  clear hge
  go_wp2_with (fail)
  clear hfd
  have HB1 := Lib.hid hB1
  have HD0 := Lib.hid d0
  have HD1 := Lib.hid d1
  have HL1 := Lib.hid hl1
  clear hB1 d0 d1 hl1
  go_loopw [8, 9, 10, 11, 15] (fun v _p _q _r i wr => ∃ (t : Nat) (f : Nat → Pc), t ≤ n ∧ i = .int .i64 t ∧ RsI W1 B R k q x t v f wr) (fun _ _ _ _ i _ => n - (RowKit.intOf i).toNat)
  case atStart => exact ⟨0, fun _ => default, Nat.zero_le _, rfl, ⟨by rw [show cnt x 0 = 0 from rfl]; exact own_nilR _ _ _, rfl, (fun j hj => by rw [show cnt x 0 = 0 from rfl] at hj; omega), hb2⟩⟩
  case round =>
    obtain ⟨t, f, ht, rfl, hI⟩ := hrel
    have c0 := (hI.bel.cell (p := ⟨g, 0, none⟩) HL1.out).trans HD0.out
    have c1 := (hI.bel.cell (p := ⟨g, 1, none⟩) HL1.out).trans HD1.out
    clear hb2
    by_cases hlt : t < n
    · by_cases htx : t = x
      · subst htx
        have HI := Lib.hid hI
        clear hI
        go_wp2_with (fail)
        go_roundw
        case rel =>
          have e1 : cnt t (t + 1) = cnt t t := by unfold cnt; split <;> split <;> omega
          exact ⟨t + 1, f, by omega, by go_num, ⟨by rw [e1]; exact HI.out.own, by rw [allO, HI.out.all]; simp, by rw [e1]; exact HI.out.zs, HI.out.bel⟩⟩
        case measure => simp [RowKit.intOf]; omega
      · have hz : ((t : Int) == (x : Int)) = false := by simp; omega
        have hne : ¬ (t : Int) = (x : Int) := by omega
        have hBr := HB1.out.trans (hI.bel.mono HB1.out.size)
        have hrd := sread_any (t : Int) k q (HR.out.below hBr) (HB.out.next hBr)
        have HI := Lib.hid hI
        obtain ⟨ra, rc, rfl, _, _, _, _⟩ := hI.own.rws
        have HT := Lib.hid htx
        clear hI htx hBr
        cases hok : rdO B R k q (t : Int) with
        | false =>
          have hF : Hid (resO B R k q x n = false) := by
            show _ = _
            rw [resO, allO_no (i := t + 1) hlt (by rw [allO, hok, decide_eq_false HT.out]; simp), Bool.false_and]
          rw [hok] at hrd
          have hF2 : Hid (resL B R k q x n = []) := by show _ = _; rw [resL, hF.out]; rfl
          clear hok
          go_wp2_with (fail)
          refine hrd.mono ?_
          rintro e w3 ⟨a3, n3, c3, rfl, hp3, hlo3, hb3⟩
          have HB3 : Hid (Below w.heap.size w w3) := (HB1.out.trans (HI.out.bel.mono HB1.out.size)).trans (hb3.mono (Nat.le_trans HB1.out.size HI.out.bel.size))
          clear hrd hp3 hlo3 hb3 c0 c1
          go_wp2_with (fail)
          go_ret2
          rw [hF.out, hF2.out]
          exact ⟨none, 0, 0, rfl, Pin.zero _, (fun x hx => by cases hx), HB3.out⟩
        | true =>
          rw [hok] at hrd
          have HOK := Lib.hid hok
          have hL : rdL B R k q (t : Int) = brV B R (t : Int) k := by rw [rdL, hok, if_pos rfl]
          rw [hL] at hrd
          clear hok hL
          go_wp2_with (fail)
          refine hrd.mono ?_
          rintro e w3 ⟨a3, n3, c3, rfl, hp3, hlo3, hb3⟩
          have hB3 : Below W1.heap.size W1 w3 := HI.out.bel.trans (hb3.mono HI.out.bel.size)
          have hO3 := HI.out.own.next hb3
          have hap : Hid (n3 = 0 ∨ ∀ y, a3 = some y → some y.block ≠ (Value.slice ra (cnt x t) rc).ownBlock) := .inr fun y hy e2 => by
            have h5 := hlo3 y hy
            have h6 := (HI.out.own.row.lt _ e2.symm).2
            omega
          clear hrd c0 c1 hb3 hlo3
          have HO4 : Hid (OwnR (w3.alloc (.cells #[.slice a3 n3 c3] 49 (0, 0))) W1.heap.size (.slice ra (cnt x t) rc) (cnt x t) f) := hO3.next ((Below.refl _ _).alloc (Nat.le_refl _) _)
          have HP4 : Hid (Pin (w3.alloc (.cells #[.slice a3 n3 c3] 49 (0, 0))) a3 n3 c3 (brV B R (t : Int) k)) := hp3.alloc _
          have HB4 : Hid (Below W1.heap.size W1 (w3.alloc (.cells #[.slice a3 n3 c3] 49 (0, 0)))) := hB3.alloc hB3.size _
          have HC4 : Hid ((w3.alloc (.cells #[.slice a3 n3 c3] 49 (0, 0))).cell? ⟨w3.heap.size, 0, none⟩ = some (.slice a3 n3 c3)) := by show _ = _; simp
          have hcn : Hid (cnt x t + 1 ≤ 1000000000000) := by show _ ≤ _; unfold cnt; split <;> omega
          clear hp3 hB3 hO3
          go_wp2_with (at_builtin; go_must (refine wpList_apR rfl (.tmp 34) (.tmp 36) rfl W1.heap.size _ (cnt x t) f rfl HO4.out w3.heap.size rfl a3 n3 c3 (brV B R (t : Int) k) HC4.out HP4.out hap.out hcn.out HB4.out.size W1 HB4.out ?_); intro v5 w5 hO5 hb5 hgr5 hat5)
          go_roundw
          case rel =>
            have e1 : cnt x (t + 1) = cnt x t + 1 := by have := HT.out; unfold cnt; split <;> split <;> omega
            have e2 : skp x (cnt x t) = t := by have := HT.out; unfold skp cnt; split <;> split <;> omega
            refine ⟨t + 1, _, by omega, by go_num, ⟨by rw [e1]; exact hO5, by rw [allO, HI.out.all, HOK.out]; simp, fun j hj => ?_, hb5⟩⟩
            rw [e1] at hj
            rcases Nat.lt_or_ge j (cnt x t) with h1 | h1
            · rw [snoc_old h1]; exact HI.out.zs j h1
            · obtain rfl : j = cnt x t := by omega
              rw [snoc_new, e2]
          case measure => simp [RowKit.intOf]; omega
    · obtain rfl : t = n := by omega
      have e1 : cnt x t = t - 1 := by unfold cnt; split <;> omega
      obtain ⟨ra, rc, rfl, hrw, hnc, hcm, _⟩ := hI.own.rws
      have hp := restore_n ra (cnt x t) rc f wr hrw (by rw [e1]; omega)
      rw [e1, parL_congr (g := oth B R k x) (fun i hi => hI.zs i (by rw [e1]; exact hi)), oneSeq_congr (g := oth B R k x) (fun i hi => hI.zs i (by rw [e1]; exact hi))] at hp
      have eO : resO B R k q x t = oneSeq (oth B R k x) (t - 1) := by rw [resO, hI.all, Bool.true_and]
      have eL : resL B R k q x t = parL (oth B R k x) (t - 1) := by
        rw [resL, eO]
        by_cases h : oneSeq (oth B R k x) (t - 1) = true
        · rw [if_pos h]
        · rw [if_neg h, parL, if_neg h]
      rw [e1]
      have EO := Lib.hid eO
      have EL := Lib.hid eL
      have HI := Lib.hid hI
      clear hI c0 c1 hrw eO eL e1
      go_wp2_with (fail)
      refine hp.mono ?_
      rintro e w6 ⟨a6, n6, c6, rfl, hp6, hlo6, hb6⟩
      have HBX : Hid (Below w.heap.size w w6) := (HB1.out.trans (HI.out.bel.mono HB1.out.size)).trans (hb6.mono (Nat.le_trans HB1.out.size HI.out.bel.size))
      have HLO : Hid (∀ x, a6 = some x → w.heap.size ≤ x.block) := fun y hy => Nat.le_trans (Nat.le_trans HB1.out.size HI.out.bel.size) (hlo6 y hy)
      clear hp hb6 hlo6
      go_wp2_with (fail)
      go_ret2
      rw [EO.out, EL.out]
      exact ⟨a6, n6, c6, rfl, hp6, HLO.out, HBX.out⟩
end

end Go.Proofs.YtciddoeeiamndaaGreat

/-
  A row's spots, of the call's own, by contract.
-/
namespace Go.Proofs.YtciddoeeiamndaaGreat
open Go.RowKit Go.Maps
set_option linter.unusedVariables false

theorem infoSpot : (Tryz.prog.info? 116).map (fun i => (i.zero, i.size, i.bytes)) = some (some (.agg #[.int .i64 0, .int .i64 0]), 2, 16) := by kernel_rfl
/-- The cells of the first n spots, on the disks D, of sector s. -/
def spsL (D : Nat → Int) (s : Int) : Nat → List Value
  | 0 => []
  | n + 1 => spsL D s n ++ [.int .i64 (D n), .int .i64 s]
theorem spsL_len (D : Nat → Int) (s : Int) (n : Nat) : (spsL D s n).length = n * 2 := by
  induction n with
  | zero => rfl
  | succ n ih => rw [spsL, List.length_append, ih]; simp; omega
theorem spsL_at (D : Nat → Int) (s : Int) {n j : Nat} (h : j < n) : (spsL D s n)[2 * j]? = some (.int .i64 (D j)) ∧ (spsL D s n)[2 * j + 1]? = some (.int .i64 s) := by
  induction n with
  | zero => omega
  | succ n ih =>
    have hl := spsL_len D s n
    rcases Nat.lt_or_ge j n with h1 | h1
    · obtain ⟨a, b⟩ := ih h1
      rw [spsL, List.getElem?_append_left (by rw [hl]; omega), List.getElem?_append_left (by rw [hl]; omega)]
      exact ⟨a, b⟩
    · obtain rfl : j = n := by omega
      rw [spsL, List.getElem?_append_right (by rw [hl]; omega), List.getElem?_append_right (by rw [hl]; omega), hl]
      rw [show 2 * j - j * 2 = 0 by omega, show 2 * j + 1 - j * 2 = 1 by omega]
      exact ⟨rfl, rfl⟩
/-- Spots of the call's own. -/
def OwnP (w : World) (B : Nat) (v : Value) (n : Nat) (D : Nat → Int) (s : Int) : Prop := w.ownsRow B 116 2 v n (spsL D s n)
theorem OwnP.below {w w' : World} {B : Nat} {v : Value} {n : Nat} {D : Nat → Int} {s : Int} (h : OwnP w B v n D s) {C : Nat} (hC : w.heap.size ≤ C) (hb : Below C w w') : OwnP w' B v n D s :=
  h.kept (row := none) ⟨hb.os, hb.tape, hb.output, hb.size, fun k hk _ => hb.block k (by omega)⟩ (by cases v.ownBlock <;> simp)
theorem OwnP.next {w w' : World} {B : Nat} {v : Value} {n : Nat} {D : Nat → Int} {s : Int} (h : OwnP w B v n D s) (hb : Below w.heap.size w w') : OwnP w' B v n D s := h.below (Nat.le_refl _) hb
theorem ownP_nil (w : World) (B : Nat) (D : Nat → Int) (s : Int) : OwnP w B (.slice none 0 0) 0 D s := World.ownsRow_nil _ _ _ _
theorem OwnP.form {w : World} {B : Nat} {v : Value} {n : Nat} {D : Nat → Int} {s : Int} (h : OwnP w B v n D s) : ∃ a c, v = .slice a n c := by
  rcases h.2 with ⟨rfl, rfl⟩ | ⟨g, cap, cur, rfl, _⟩
  · exact ⟨_, _, rfl⟩
  · exact ⟨_, _, rfl⟩
/-- A row of n spots in block g, from B on. -/
structure RowAt (w : World) (B : Nat) (v : Value) (n : Nat) (D : Nat → Int) (s : Int) : Prop where
  val : ∃ g c, v = .slice (some ⟨g, 0, none⟩) n c ∧ B ≤ g ∧ g < w.heap.size ∧ n ≤ c ∧ c ≤ 9223372036854775807 ∧
    ∀ j, j < n → w.cell? ⟨g, 2 * j, none⟩ = some (.int .i64 (D j)) ∧ w.cell? ⟨g, 2 * j + 1, none⟩ = some (.int .i64 s)
theorem RowAt.next {w w' : World} {B : Nat} {v : Value} {n : Nat} {D : Nat → Int} {s : Int} (h : RowAt w B v n D s) (hb : Below w.heap.size w w') : RowAt w' B v n D s := by
  obtain ⟨g, c, e, h1, h2, h3, h4, h5⟩ := h.val
  exact ⟨g, c, e, h1, Nat.lt_of_lt_of_le h2 hb.size, h3, h4, fun j hj => ⟨(hb.cell (p := ⟨g, 2 * j, none⟩) h2).trans (h5 j hj).1, (hb.cell (p := ⟨g, 2 * j + 1, none⟩) h2).trans (h5 j hj).2⟩⟩
theorem RowAt.lower {w : World} {B C : Nat} {v : Value} {n : Nat} {D : Nat → Int} {s : Int} (h : RowAt w B v n D s) (hC : C ≤ B) : RowAt w C v n D s := by
  obtain ⟨g, c, e, h1, r⟩ := h.val
  exact ⟨g, c, e, Nat.le_trans hC h1, r⟩
theorem RowAt.turn {w w' : World} {B : Nat} {v : Value} {n : Nat} {D : Nat → Int} {s : Int} {N : Nat → Prop} (h : RowAt w B v n D s) (ht : Turn N w w') (hN : ∀ k, N k → k < B) : RowAt w' B v n D s := by
  obtain ⟨g, c, e, h1, h2, h3, h4, h5⟩ := h.val
  have hg : ¬ N g := fun x => by have := hN g x; omega
  exact ⟨g, c, e, h1, Nat.lt_of_lt_of_le h2 ht.size, h3, h4, fun j hj => ⟨(ht.cell (a := ⟨g, 2 * j, none⟩) h2 hg).trans (h5 j hj).1, (ht.cell (a := ⟨g, 2 * j + 1, none⟩) h2 hg).trans (h5 j hj).2⟩⟩
theorem OwnP.row {w : World} {B : Nat} {v : Value} {n : Nat} {D : Nat → Int} {s : Int} (h : OwnP w B v n D s) (hn : 0 < n) : RowAt w B v n D s := by
  rcases h.2 with ⟨rfl, rfl⟩ | ⟨g, cap, cur, rfl, hb, hg, hnc, hm, hsz, htake⟩
  · omega
  · refine ⟨g, cap, rfl, hb, lt_of_block hg, hnc, by unfold maxLen at hm; omega, fun j hj => ?_⟩
    have e := spsL_at D s hj
    have h1 := h.cellAt (2 * j) (by omega)
    have h2 := h.cellAt (2 * j + 1) (by omega)
    exact ⟨h1.trans e.1, h2.trans e.2⟩

/-- 'append(row, spot)'. -/
theorem wpList_apP {w : World} {ops : Array Oper} {rest : List Oper} {o : Oper} {a : Act} {Q : Exit → Act → World → Prop} (hgd : o.guard = none) (s x : Operand)
    (ho : o.op = .call { callee := .builtin .append, args := #[s, x], argTypes := #[106, 106] })
    (B : Nat) (v : Value) (n : Nat) (D : Nat → Int) (z : Int) (hs : a.eval s = v) (hown : OwnP w B v n D z) (g : Nat) (hx : a.eval x = .slice (some ⟨g, 0, none⟩) 1 1)
    (h0 : w.cell? ⟨g, 0, none⟩ = some (.int .i64 (D n))) (h1 : w.cell? ⟨g, 1, none⟩ = some (.int .i64 z))
    (hn : n + 1 ≤ 1000000000000) (hB : B ≤ w.heap.size) (w0 : World) (hb : Below B w0 w)
    (h : ∀ v' w', OwnP w' B v' (n + 1) D z → Below B w0 w' → wpList Tryz.prog ops Q rest (a.put o.dst v') w') : wpList Tryz.prog ops Q (o :: rest) a w := by
  obtain ⟨i0, hi, hz0, hz1, hz2⟩ := info_parts infoSpot
  refine wpList_append_own w hgd s x 106 ho B 116 i0 (.agg #[.int .i64 0, .int .i64 0]) 2 16 Tryz.underlying106 hi hz0 hz1 hz2 rfl (by decide) v n _ hs hown ⟨g, 0, none⟩ 1 1 [.int .i64 (D n), .int .i64 z] hx rfl ?_ ?_ (by unfold maxLen; omega) (by omega) hB ?_
  · intro j u hj
    match j with
    | 0 => simp at hj; subst hj; exact h0
    | 1 => simp at hj; subst hj; exact h1
    | j + 2 => simp at hj
  · intro u hu
    rcases List.mem_cons.1 hu with rfl | hu
    · rfl
    · rw [List.mem_singleton.1 hu]
      rfl
  · intro v' w' hown' hgrow _
    exact h v' w' hown' (hb.grown hgrow hB fun k hk => (hown.lt k hk).1)

/-- The disks of a row: its blocks', then its parity's. -/
def rowD (n : Nat) (q : Int) (j : Nat) : Int := BD n q j
theorem rowD_par (n : Nat) (q : Int) (hn : 3 ≤ n) : rowD n q (n - 1) = PD n q := by
  unfold rowD BD
  obtain ⟨h1, h2⟩ := PD_bd (d := (n : Int)) (q := q) (by omega)
  rw [show PD (n : Int) q + 1 + ((n - 1 : Nat) : Int) = PD (n : Int) q + n by omega, Int.add_emod_right, Int.emod_eq_of_lt h1 h2]
set_option maxRecDepth 100000 in
set_option maxHeartbeats 4000000 in
theorem rowOf_any (n : Nat) (r s g : Int) (a : Nat) (w : World) (h : Sg n r s g) (ha : (a : Int) < r) :
    Calls Tryz.prog 98 #[gv n r s, .int .i64 g, .int .i64 a] w fun e w' => ∃ v, e = .returned v ∧ RowAt w' w.heap.size v n (rowD n (g * r + a)) (5 + (g * r + a)) ∧ Below w.heap.size w w' := by
  have d1 := h.d1
  have d2 := h.d2
  have r1 := h.r1
  have r2 := h.r2
  obtain ⟨o, ho⟩ : ∃ o : Nat, o + 1 = n := ⟨n - 1, by omega⟩
  have ho15 : o ≤ 15 := by omega
  have hpar := parity_yes n r s g a
  obtain ⟨p, hp⟩ : ∃ p : Nat, p = a * o := ⟨_, rfl⟩
  have hp60 : p ≤ 60 := by rw [hp]; exact Nat.le_trans (Nat.mul_le_mul (show a ≤ 3 by omega) (show o ≤ 15 by omega)) (by omega)
  have hpw : IntKind.i64.wrap ((a : Int) * (o : Int)) = (p : Int) := by rw [hp, IntWalk.i64_in _ (by rw [← Int.natCast_mul, ← hp]; omega)]; exact (Int.natCast_mul a o).symm
  have hno : (n : Int) - 1 = (o : Int) := by omega
  have hmul : ((a : Int) * (o : Int)) = (p : Int) := by rw [hp]; exact (Int.natCast_mul a o).symm
  have HBk : Hid (∀ (c : Nat) (w : World), c < o → Calls Tryz.prog 112 #[gv n r s, .int .i64 g, .int .i64 ((p : Int) + c)] w fun e w' => e = .returned (sv (rowD n (g * r + a) c) (5 + (g * r + a)) true) ∧ Below w.heap.size w w') := fun c w hc => by
    have h1 : (p : Int) + c ≤ PL n r := by
      unfold PL
      have : (a + 1) * o ≤ r.toNat * o := Nat.mul_le_mul_right _ (by omega)
      have e1 : ((r.toNat * o : Nat) : Int) = r * (n - 1) := by rw [Int.natCast_mul, hno]; congr 1; omega
      have e2 : (a + 1) * o = p + o := by rw [Nat.add_mul, Nat.one_mul, hp]
      omega
    have h2 := block_yes n r s g ((p : Int) + c) w h (by omega) h1
    have e3 : ((p : Int) + c) / (n - 1) = a := by
      rw [hno, hp, Int.natCast_mul, Int.add_comm, Int.add_mul_ediv_right _ _ (by omega), Int.ediv_eq_zero_of_lt (by omega) (by omega), Int.zero_add]
    have e4 : ((p : Int) + c) % (n - 1) = c := by
      rw [hno, hp, Int.natCast_mul, Int.add_comm, Int.add_mul_emod_self_right, Int.emod_eq_of_lt (by omega) (by omega)]
    rw [e3, e4] at h2
    exact h2
  have HPr : Hid (∀ w : World, Calls Tryz.prog 129 #[gv n r s, .int .i64 g, .int .i64 a] w fun e w' => e = .returned (sv (rowD n (g * r + a) o) (5 + (g * r + a)) true) ∧ Below w.heap.size w w') := fun w => by
    have h2 := hpar w h (by omega) ha
    rw [show rowD n (g * r + a) o = PD n (g * r + a) by rw [show o = n - 1 by omega]; exact rowD_par n _ (by omega)]
    exact h2
  obtain ⟨D, hD⟩ : ∃ D, D = rowD n (g * r + a) := ⟨_, rfl⟩
  obtain ⟨z, hz⟩ : ∃ z, z = 5 + (g * r + a) := ⟨_, rfl⟩
  rw [← hD, ← hz] at HBk HPr ⊢
  obtain ⟨W1, hW1⟩ : ∃ W1, W1 = w.alloc (.cells #[.int .i64 n, .int .i64 r, .int .i64 s] 41 (0, 0)) := ⟨_, rfl⟩
  have hx1 : Bx W1 w.heap.size n r s := by rw [hW1]; exact Bx.mk' w _ _ _ _
  have hB1 : Below w.heap.size w W1 := by rw [hW1]; exact (Below.refl _ _).alloc (Nat.le_refl _) _
  obtain ⟨gb, hgb⟩ : ∃ gb, gb = w.heap.size := ⟨_, rfl⟩
  have y0 := hx1.c0
  have y1 := hx1.c1
  have y2 := hx1.c2
  rw [← hgb] at hx1 y0 y1 y2
  have hsub : IntKind.i64.wrap ((n : Int) - 1) = (o : Int) := by rw [hno]; exact IntWalk.i64_in _ (by omega)
  have HX1 := Lib.hid hx1
  have HB1 := Lib.hid hB1
  have HO := Lib.hid ho
  clear hpar hD hz h hp hmul r1 r2 ha hx1 hB1 ho hno
  go_enter Tryz.func98, Tryz.ntmps98
  go_wp2_with (fail)
  rw [← hW1, ← hgb]
  clear hW1 hgb
  go_loopw [8, 9, 10, 11, 18] (fun v _p _q _r i wr => ∃ c : Nat, c ≤ o ∧ i = .int .i64 c ∧ OwnP wr W1.heap.size v c D z ∧ Below W1.heap.size W1 wr) (fun _ _ _ _ i _ => o - (RowKit.intOf i).toNat)
  case atStart => exact ⟨0, Nat.zero_le _, rfl, ownP_nil _ _ _ _, Below.refl _ _⟩
  case round =>
    obtain ⟨c, hc, rfl, hO, hb⟩ := hrel
    have hx2 := HX1.out.next hb
    clear y0 y1 y2
    have y0 := hx2.c0
    have y1 := hx2.c1
    have y2 := hx2.c2
    have HO2 := Lib.hid hO
    have HB2 := Lib.hid hb
    obtain ⟨ra, rc, rfl⟩ := hO.form
    clear hx2 hO hb
    by_cases hlt : c < o
    · have hbk := HBk.out c wr hlt
      have hw2 : IntKind.i64.wrap ((p : Int) + (c : Int)) = (p : Int) + c := IntWalk.i64_in _ (by omega)
      go_wp2_with (fail)
      refine hbk.mono ?_
      rintro e w3 ⟨rfl, hb3⟩
      have hB3 := HB2.out.trans (hb3.mono HB2.out.size)
      have hO3 := HO2.out.next hb3
      have HB5 : Hid (Below W1.heap.size W1 ((w3.alloc (.cells #[.int .i64 (D c), .int .i64 z] 116 (0, 0))).alloc (.cells #[.int .i64 (D c), .int .i64 z] 116 (0, 0)))) := (hB3.alloc hB3.size _).alloc (by simp; have := hB3.size; omega) _
      have HO5 : Hid (OwnP ((w3.alloc (.cells #[.int .i64 (D c), .int .i64 z] 116 (0, 0))).alloc (.cells #[.int .i64 (D c), .int .i64 z] 116 (0, 0))) W1.heap.size (.slice ra c rc) c D z) := (hO3.next ((Below.refl _ _).alloc (Nat.le_refl _) _)).next ((Below.refl _ _).alloc (Nat.le_refl _) _)
      have HC0 : Hid (((w3.alloc (.cells #[.int .i64 (D c), .int .i64 z] 116 (0, 0))).alloc (.cells #[.int .i64 (D c), .int .i64 z] 116 (0, 0))).cell? ⟨w3.heap.size + 1, 0, none⟩ = some (.int .i64 (D c))) := by show _ = _; simp
      have HC1 : Hid (((w3.alloc (.cells #[.int .i64 (D c), .int .i64 z] 116 (0, 0))).alloc (.cells #[.int .i64 (D c), .int .i64 z] 116 (0, 0))).cell? ⟨w3.heap.size + 1, 1, none⟩ = some (.int .i64 z)) := by show _ = _; simp
      have hcn : Hid (c + 1 ≤ 1000000000000) := by show _ ≤ _; omega
      clear hbk hb3 hB3 hO3 y0 y1 y2
      go_wp2_with (at_builtin; go_must (refine wpList_apP rfl (.tmp 32) (.tmp 34) rfl W1.heap.size _ c D z rfl HO5.out (w3.heap.size + 1) rfl HC0.out HC1.out hcn.out HB5.out.size W1 HB5.out ?_); intro v5 w5 hO5 hb5)
      go_roundw
      case rel => exact ⟨c + 1, by omega, by go_num, hO5, hb5⟩
      case measure => simp [RowKit.intOf]; omega
    · obtain rfl : c = o := by omega
      have hp := HPr.out wr
      go_wp2_with (fail)
      refine hp.mono ?_
      rintro e w3 ⟨rfl, hb3⟩
      have hB3 := HB2.out.trans (hb3.mono HB2.out.size)
      have hO3 := HO2.out.next hb3
      have HB5 : Hid (Below W1.heap.size W1 ((w3.alloc (.cells #[.int .i64 (D c), .int .i64 z] 116 (0, 0))).alloc (.cells #[.int .i64 (D c), .int .i64 z] 116 (0, 0)))) := (hB3.alloc hB3.size _).alloc (by simp; have := hB3.size; omega) _
      have HO5 : Hid (OwnP ((w3.alloc (.cells #[.int .i64 (D c), .int .i64 z] 116 (0, 0))).alloc (.cells #[.int .i64 (D c), .int .i64 z] 116 (0, 0))) W1.heap.size (.slice ra c rc) c D z) := (hO3.next ((Below.refl _ _).alloc (Nat.le_refl _) _)).next ((Below.refl _ _).alloc (Nat.le_refl _) _)
      have HC0 : Hid (((w3.alloc (.cells #[.int .i64 (D c), .int .i64 z] 116 (0, 0))).alloc (.cells #[.int .i64 (D c), .int .i64 z] 116 (0, 0))).cell? ⟨w3.heap.size + 1, 0, none⟩ = some (.int .i64 (D c))) := by show _ = _; simp
      have HC1 : Hid (((w3.alloc (.cells #[.int .i64 (D c), .int .i64 z] 116 (0, 0))).alloc (.cells #[.int .i64 (D c), .int .i64 z] 116 (0, 0))).cell? ⟨w3.heap.size + 1, 1, none⟩ = some (.int .i64 z)) := by show _ = _; simp
      have hcn : Hid (c + 1 ≤ 1000000000000) := by show _ ≤ _; omega
      clear hp hb3 hB3 hO3 y0 y1 y2
      go_wp2_with (at_builtin; go_must (refine wpList_apP rfl (.tmp 44) (.tmp 46) rfl W1.heap.size _ c D z rfl HO5.out (w3.heap.size + 1) rfl HC0.out HC1.out hcn.out HB5.out.size W1 HB5.out ?_); intro v5 w5 hO5 hb5)
      go_ret
      have e := HO.out
      subst e
      exact ⟨_, rfl, (hO5.row (by omega)).lower HB1.out.size, HB1.out.trans (hb5.mono HB1.out.size)⟩

end Go.Proofs.YtciddoeeiamndaaGreat
