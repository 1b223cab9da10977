/-
  The stripe's reading of one sector, by contract: load, read.
-/
import Derived.Test.YtegmeoghonolcaaGreatSta
import Derived.Test.YtegmeoghonolcaaGreatHb
import Derived.Test.YtegmeoghonolcaaGreatRowO
import Derived.Test.YtegmeoghonolcaaGreatBkb
set_option linter.unusedSimpArgs false
set_option linter.unusedVariables false
namespace Go.Proofs.YtegmeoghonolcaaGreat
open Go.RowKit Go.Maps
set_option linter.unusedVariables false

/-- A spot, as a value. -/
abbrev spV (i k : Int) : Value := .agg #[.int .i64 i, .int .i64 k]
theorem decn_any (a : Option Addr) (n c : Nat) (x : List Int) (w : World) (hx : Pin w a n c x) : Calls Tryz.prog 83 #[.slice a n c] w (DecNew w x) := by
  by_cases h : n = 64
  · subst h
    exact dec_yes a c x w hx
  · exact dec_no a n c x w hx h
theorem dec_any (a : Option Addr) (n c : Nat) (x : List Int) (w : World) (hx : Pin w a n c x) : Calls Tryz.prog 83 #[.slice a n c] w (DecPost w x) := (decn_any a n c x w hx).mono fun _ _ h => h.t
theorem restore_n (a : Option Addr) (n c : Nat) (f : Nat → Pc) (w : World) (h : Rws w a n f) (hn : n ≤ 9223372036854775807) :
    Calls Tryz.prog 164 #[.slice a n c] w (RetN w (parL f n) (oneSeq f n)) := by
  have hp := par_n a n c f w h hn
  clear h
  go_enter Tryz.func164, Tryz.ntmps164
  go_wp2_with (fail)
  refine hp.mono ?_
  rintro e w1 ⟨x, m, d, rfl, hp1, hlo, hb1⟩
  go_wp2_with (fail)
  go_ret2
  exact ⟨x, m, d, rfl, hp1, hlo, hb1⟩

section
variable {M : Nat → Prop} {L : Lay} {R : Rk} {w : World} {b : Nat} {B : Bn}
/-- What can be read is a sector. -/
theorem br_len (hr : RackAt w M L R) {i k : Int} (h : brE B R i k = 0) : (brV B R i k).length = 64 ∧ AllB (brV B R i k) := by
  unfold brE at h
  unfold brV
  by_cases hs : hasSl B.d i = true
  · rw [if_pos hs] at h ⊢
    unfold Rk.rdV
    rw [if_pos h]
    unfold Rk.rdE at h
    by_cases ho : R.off = true
    · rw [if_pos ho] at h; omega
    · rw [if_neg ho] at h
      by_cases hb : hasB R.n R.S (B.disk i) k = true
      · obtain ⟨x, y, e1, e2, hx, hy⟩ := hasB_nat hb
        rw [e1, e2, Int.toNat_natCast, Int.toNat_natCast]
        exact Dk.read_len (hr.drv x hx) hy
      · rw [if_neg hb] at h; omega
  · rw [if_neg hs] at h; omega
theorem br_nil {i k : Int} (h : ¬ brE B R i k = 0) : brV B R i k = [] := by
  unfold brE at h
  unfold brV
  by_cases hs : hasSl B.d i = true
  · rw [if_pos hs] at h ⊢
    unfold Rk.rdV
    rw [if_neg h]
  · rw [if_neg hs]
/-- Can a sector be read? -/
def ldO (B : Bn) (R : Rk) (i k : Int) : Bool := decide (brE B R i k = 0)
theorem br_dec (hr : RackAt w M L R) (i k : Int) : decO (brV B R i k) = ldO B R i k := by
  unfold decO ldO
  by_cases h : brE B R i k = 0
  · rw [decide_eq_true h, decide_eq_true (br_len hr h).1]
  · rw [decide_eq_false h, br_nil h]
    rfl
/-- What load leaves. -/
def LdPost (w : World) (zs : List Int) (q : Int) (ok : Bool) (e : Ending) (w' : World) : Prop :=
  ∃ a n c, e = .returned (.tuple #[.slice a n c, .int .i64 q, .bool ok]) ∧ Pin w' a n c zs ∧ (∀ x, a = some x → w.heap.size ≤ x.block) ∧ Below w.heap.size w w'
set_option maxRecDepth 100000 in
theorem sload_any (i k : Int) (hr : RackAt w M L R) (hb : BnAt w b L.p B) :
    Calls Tryz.prog 119 #[.pointer (some ⟨b, 0, none⟩), spV i k] w (LdPost w (brV B R i k) (decN (brV B R i k) 0 4) (ldO B R i k)) := by
  have hdo := br_dec (B := B) hr i k
  obtain ⟨W1, hW1⟩ : ∃ W1, W1 = w.alloc (.cells #[.int .i64 i, .int .i64 k] 150 (0, 0)) := ⟨_, rfl⟩
  have hB1 : Below w.heap.size w W1 := by rw [hW1]; exact (Below.refl _ _).alloc (Nat.le_refl _) _
  have d0 : W1.cell? ⟨w.heap.size, 0, none⟩ = some (.int .i64 i) := by rw [hW1]; simp
  have d1 : W1.cell? ⟨w.heap.size, 1, none⟩ = some (.int .i64 k) := by rw [hW1]; simp
  have hrd := bread_any i k (hr.below hB1) (hb.next hB1)
  unfold LdPost
  by_cases h : brE B R i k = 0
  · rw [h] at hrd
    rw [show ldO B R i k = true from decide_eq_true h] at hdo ⊢
    obtain ⟨zs, hzs⟩ : ∃ zs, zs = brV B R i k := ⟨_, rfl⟩
    rw [← hzs] at hrd hdo ⊢
    have HDO := Lib.hid hdo
    obtain ⟨q1, hq1⟩ : ∃ q, q = decN zs 0 4 := ⟨_, rfl⟩
    rw [← hq1]
    have HQ1 := Lib.hid hq1
    clear hdo hr hb h hzs hq1
    go_enter Tryz.func119, Tryz.ntmps119
    go_wp2_with (fail)
    rw [← hW1]
    clear hW1 d0 d1
    refine hrd.mono ?_
    rintro e w2 ⟨v, rfl, ho, hb2⟩
    obtain ⟨a, c, rfl, hp, hlo⟩ := ho.pin
    have hB2 := hB1.trans (hb2.mono hB1.size)
    have hlo' : Hid (∀ x, a = some x → w.heap.size ≤ x.block) := fun x hx => by have := (hlo x hx).1; have := hB1.size; omega
    have hdc := dec_any a zs.length c zs w2 hp
    obtain ⟨n, hn⟩ : ∃ n, n = zs.length := ⟨_, rfl⟩
    rw [← hn] at hp hdc ⊢
    clear hrd ho hlo hb2 hB1 hn
    go_wp2_with (fail)
    refine hdc.mono ?_
    rintro e w3 ⟨a3, n3, c3, rfl, hp3, hb3⟩
    rw [HDO.out, ← HQ1.out]
    have hp' := hp.next hb3
    have hB3 := hB2.trans (hb3.mono hB2.size)
    clear hdc hp hp3 hB2 hb3
    go_wp2_with (fail)
    go_quiet (fail)
    go_wp2_with (fail)
    go_ret3
    exact ⟨a, n, c, rfl, (hp'.alloc _).drewN _, hlo'.out, below_drewN (hB3.alloc hB3.size _) _⟩
  · have hv := br_nil h
    rw [hv] at hrd ⊢
    rw [show ldO B R i k = false from decide_eq_false h]
    obtain ⟨x, hx⟩ : ∃ x, x = brE B R i k := ⟨_, rfl⟩
    rw [← hx] at hrd h
    have hx0 : (x == 0) = false := by simpa using h
    clear hr hb hv hx h hdo
    go_enter Tryz.func119, Tryz.ntmps119
    go_wp2_with (fail)
    rw [← hW1]
    clear hW1 d0 d1
    refine hrd.mono ?_
    rintro e w2 ⟨v, rfl, ho, hb2⟩
    have hB2 := hB1.trans (hb2.mono hB1.size)
    clear hrd ho hB1 hb2
    go_wp2_with (fail)
    go_ret3
    exact ⟨none, 0, 0, rfl, Pin.zero _, (fun x hx => by cases hx), hB2⟩
/-- Can a sector be read, and has it this Seq? -/
def rdO (B : Bn) (R : Rk) (k q i : Int) : Bool := ldO B R i k && decide (decN (brV B R i k) 0 4 = q)
def rdL (B : Bn) (R : Rk) (k q i : Int) : List Int := if rdO B R k q i then brV B R i k else []
set_option maxRecDepth 100000 in
theorem sread_any (i k q : Int) (hr : RackAt w M L R) (hb : BnAt w b L.p B) :
    Calls Tryz.prog 120 #[.pointer (some ⟨b, 0, none⟩), spV i k, .int .i64 q] w (RetN w (rdL B R k q i) (rdO B R k q i)) := by
  unfold rdL rdO
  obtain ⟨W1, hW1⟩ : ∃ W1, W1 = w.alloc (.cells #[.int .i64 i, .int .i64 k] 150 (0, 0)) := ⟨_, rfl⟩
  have hB1 : Below w.heap.size w W1 := by rw [hW1]; exact (Below.refl _ _).alloc (Nat.le_refl _) _
  have d0 : W1.cell? ⟨w.heap.size, 0, none⟩ = some (.int .i64 i) := by rw [hW1]; simp
  have d1 : W1.cell? ⟨w.heap.size, 1, none⟩ = some (.int .i64 k) := by rw [hW1]; simp
  have hld := sload_any i k (hr.below hB1) (hb.next hB1)
  obtain ⟨zs, hzs⟩ : ∃ zs, zs = brV B R i k := ⟨_, rfl⟩
  obtain ⟨ok, hok⟩ : ∃ ok, ok = ldO B R i k := ⟨_, rfl⟩
  obtain ⟨q1, hq1⟩ : ∃ q, q = decN zs 0 4 := ⟨_, rfl⟩
  rw [← hzs, ← hok, ← hq1] at hld ⊢
  clear hr hb hzs hok hq1
  cases ok with
  | false =>
    rw [Bool.false_and, if_neg (by simp)]
    go_enter Tryz.func120, Tryz.ntmps120
    go_wp2_with (fail)
    rw [← hW1]
    clear hW1
    refine hld.mono ?_
    rintro e w2 ⟨a, n, c, rfl, hp, hlo, hb2⟩
    have hB2 := hB1.trans (hb2.mono hB1.size)
    clear hld hB1 hb2 d0 d1 hp hlo
    go_wp2_with (fail)
    go_ret2
    exact ⟨none, 0, 0, rfl, Pin.zero _, (fun x hx => by cases hx), hB2⟩
  | true =>
    by_cases h : q1 = q
    · rw [Bool.true_and, decide_eq_true h, if_pos rfl]
      go_enter Tryz.func120, Tryz.ntmps120
      go_wp2_with (fail)
      rw [← hW1]
      clear hW1
      refine hld.mono ?_
      rintro e w2 ⟨a, n, c, rfl, hp, hlo, hb2⟩
      have hB2 := hB1.trans (hb2.mono hB1.size)
      have HLO : Hid (∀ x, a = some x → w.heap.size ≤ x.block) := fun x hx => by have := hlo x hx; have := hB1.size; omega
      have HP := Lib.hid hp
      clear hld hB1 hb2 d0 d1 hp hlo
      go_wp2_with (fail)
      go_ret2
      exact ⟨a, n, c, rfl, HP.out, HLO.out, hB2⟩
    · rw [Bool.true_and, decide_eq_false h, if_neg (by simp)]
      have h' : (q1 == q) = false := by simpa using h
      have h2 : (q1 != q) = true := by simpa using h
      go_enter Tryz.func120, Tryz.ntmps120
      go_wp2_with (fail)
      rw [← hW1]
      clear hW1
      refine hld.mono ?_
      rintro e w2 ⟨a, n, c, rfl, hp, hlo, hb2⟩
      have hB2 := hB1.trans (hb2.mono hB1.size)
      clear hld hB1 hb2 d0 d1 hp hlo h
      go_wp2_with (fail)
      go_ret2
      exact ⟨none, 0, 0, rfl, Pin.zero _, (fun x hx => by cases hx), hB2⟩
end

end Go.Proofs.YtegmeoghonolcaaGreat

/-
  The stripe's restore, by contract.
-/
namespace Go.Proofs.YtegmeoghonolcaaGreat
open Go.RowKit Go.Maps
set_option linter.unusedVariables false

/-- The slots but x. -/
def skp (x j : Nat) : Nat := if j < x then j else j + 1
/-- What all slots but x tell. -/
def oth (B : Bn) (R : Rk) (k : Int) (x : Nat) : Nat → Pc := fun j => ⟨none, 0, 0, brV B R (skp x j : Nat) k⟩
/-- Can the first i slots but x be read, and have they this Seq? -/
def allO (B : Bn) (R : Rk) (k q : Int) (x : Nat) : Nat → Bool
  | 0 => true
  | i + 1 => allO B R k q x i && (decide (i = x) || rdO B R k q i)
def resO (B : Bn) (R : Rk) (k q : Int) (x n : Nat) : Bool := allO B R k q x n && oneSeq (oth B R k x) (n - 1)
def resL (B : Bn) (R : Rk) (k q : Int) (x n : Nat) : List Int := if resO B R k q x n then parL (oth B R k x) (n - 1) else []
theorem allO_no {B : Bn} {R : Rk} {k q : Int} {x i n : Nat} (h : i ≤ n) (ha : allO B R k q x i = false) : allO B R k q x n = false := by
  induction n with
  | zero => obtain rfl : i = 0 := by omega
            exact ha
  | succ n ih =>
    rcases Nat.lt_or_ge n i with h1 | h1
    · obtain rfl : i = n + 1 := by omega
      exact ha
    · rw [allO, ih h1, Bool.false_and]
theorem oneUpto_congr {f g : Nat → Pc} {n : Nat} (h : ∀ i, i < n → (f i).zs = (g i).zs) : oneUpto f n = oneUpto g n := by
  by_cases hg : oneUpto g n = true
  · rw [hg]
    refine oneUpto_of fun k hk => ?_
    rw [h k hk, h 0 (by omega)]
    exact oneUpto_at hk hg
  · by_cases hf : oneUpto f n = true
    · exfalso
      refine hg (oneUpto_of fun k hk => ?_)
      rw [← h k hk, ← h 0 (by omega)]
      exact oneUpto_at hk hf
    · cases h1 : oneUpto f n <;> cases h2 : oneUpto g n <;> simp_all
theorem oneSeq_congr {f g : Nat → Pc} {n : Nat} (h : ∀ i, i < n → (f i).zs = (g i).zs) : oneSeq f n = oneSeq g n := by
  unfold oneSeq
  rw [oneUpto_congr h]
theorem sumP_congr {f g : Nat → Pc} {n : Nat} (h : ∀ i, i < n → (f i).zs = (g i).zs) : sumP f n = sumP g n := by
  induction n with
  | zero => rfl
  | succ n ih => rw [sumP, sumP, ih fun i hi => h i (by omega), h n (by omega)]
theorem parL_congr {f g : Nat → Pc} {n : Nat} (h : ∀ i, i < n → (f i).zs = (g i).zs) : parL f n = parL g n := by
  unfold parL
  rw [oneSeq_congr h, sumP_congr h]
  by_cases h0 : n = 0
  · subst h0
    rfl
  · rw [h 0 (by omega)]

/-- How many of the first i slots are not x. -/
def cnt (x i : Nat) : Nat := if i ≤ x then i else i - 1
section
variable {M : Nat → Prop} {L : Lay} {R : Rk} {w : World} {b : Nat} {B : Bn}
/-- Between two rounds of restore. -/
structure RsI (w : World) (B : Bn) (R : Rk) (k q : Int) (x i : Nat) (v : Value) (f : Nat → Pc) (wr : World) : Prop where
  own : OwnR wr w.heap.size v (cnt x i) f
  all : allO B R k q x i = true
  zs : ∀ j, j < cnt x i → (f j).zs = brV B R (skp x j : Nat) k
  bel : Below w.heap.size w wr
theorem own_nilR (w : World) (B : Nat) (f : Nat → Pc) : OwnR w B (.slice none 0 0) 0 f := ⟨World.ownsRow_nil _ _ _ _, fun i hi => by omega, fun i hi => by omega⟩
set_option maxRecDepth 100000 in
set_option maxHeartbeats 4000000 in
theorem srestore_any {n x : Nat} (k q : Int) (hr : RackAt w M L R) (hb : BnAt w b L.p B) (hd : B.d = (n : Int)) (hn : n ≤ 16) (hx : x < n) :
    Calls Tryz.prog 121 #[.pointer (some ⟨b, 0, none⟩), spV x k, .int .i64 q] w (RetN w (resL B R k q x n) (resO B R k q x n)) := by
  obtain ⟨W1, hW1⟩ : ∃ W1, W1 = w.alloc (.cells #[.int .i64 x, .int .i64 k] 150 (0, 0)) := ⟨_, rfl⟩
  have hB1 : Below w.heap.size w W1 := by rw [hW1]; exact (Below.refl _ _).alloc (Nat.le_refl _) _
  have d0 : W1.cell? ⟨w.heap.size, 0, none⟩ = some (.int .i64 x) := by rw [hW1]; simp
  have d1 : W1.cell? ⟨w.heap.size, 1, none⟩ = some (.int .i64 k) := by rw [hW1]; simp
  have hl1 : w.heap.size < W1.heap.size := by rw [hW1]; simp
  obtain ⟨g, hg⟩ : ∃ g, g = w.heap.size := ⟨_, rfl⟩
  have hge := geo_any (hb.next hB1)
  have HR := Lib.hid hr
  have HB := Lib.hid hb
  have HG := Lib.hid hg
  rw [hd] at hge
  have hfd : ∀ (w : World) (p r s : Int), (Instr.field 33 (gv p r s) 0).run Tryz.prog w = .ok (.int .i64 p) w := fun _ _ _ _ => by kernel_rfl
  rw [← hg] at d0 d1 hl1
  go_enter Tryz.func121, Tryz.ntmps121
  go_wp2_with (fail)
  rw [← hW1, ← hg]
  clear hW1 hr hb hd hg
  refine hge.mono ?_
  rintro e w2 ⟨rfl, hb2⟩
  clear hge
  go_wp2_with (fail)
  clear hfd
  have HB1 := Lib.hid hB1
  have HD0 := Lib.hid d0
  have HD1 := Lib.hid d1
  have HL1 := Lib.hid hl1
  clear hB1 d0 d1 hl1
  go_loopw [8, 9, 10, 11, 15] (fun v _p _q _r i wr => ∃ (t : Nat) (f : Nat → Pc), t ≤ n ∧ i = .int .i64 t ∧ RsI W1 B R k q x t v f wr) (fun _ _ _ _ i _ => n - (RowKit.intOf i).toNat)
  case atStart => exact ⟨0, fun _ => default, Nat.zero_le _, rfl, ⟨by rw [show cnt x 0 = 0 from rfl]; exact own_nilR _ _ _, rfl, (fun j hj => by rw [show cnt x 0 = 0 from rfl] at hj; omega), hb2⟩⟩
  case round =>
    obtain ⟨t, f, ht, rfl, hI⟩ := hrel
    have c0 := (hI.bel.cell (p := ⟨g, 0, none⟩) HL1.out).trans HD0.out
    have c1 := (hI.bel.cell (p := ⟨g, 1, none⟩) HL1.out).trans HD1.out
    clear hb2
    by_cases hlt : t < n
    · by_cases htx : t = x
      · subst htx
        have HI := Lib.hid hI
        clear hI
        go_wp2_with (fail)
        go_roundw
        case rel =>
          have e1 : cnt t (t + 1) = cnt t t := by unfold cnt; split <;> split <;> omega
          exact ⟨t + 1, f, by omega, by go_num, ⟨by rw [e1]; exact HI.out.own, by rw [allO, HI.out.all]; simp, by rw [e1]; exact HI.out.zs, HI.out.bel⟩⟩
        case measure => simp [RowKit.intOf]; omega
      · have hz : ((t : Int) == (x : Int)) = false := by simp; omega
        have hne : ¬ (t : Int) = (x : Int) := by omega
        have hBr := HB1.out.trans (hI.bel.mono HB1.out.size)
        have hrd := sread_any (t : Int) k q (HR.out.below hBr) (HB.out.next hBr)
        have HI := Lib.hid hI
        obtain ⟨ra, rc, rfl, _, _, _, _⟩ := hI.own.rws
        have HT := Lib.hid htx
        clear hI htx hBr
        cases hok : rdO B R k q (t : Int) with
        | false =>
          have hF : Hid (resO B R k q x n = false) := by
            show _ = _
            rw [resO, allO_no (i := t + 1) hlt (by rw [allO, hok, decide_eq_false HT.out]; simp), Bool.false_and]
          rw [hok] at hrd
          have hF2 : Hid (resL B R k q x n = []) := by show _ = _; rw [resL, hF.out]; rfl
          clear hok
          go_wp2_with (fail)
          refine hrd.mono ?_
          rintro e w3 ⟨a3, n3, c3, rfl, hp3, hlo3, hb3⟩
          have HB3 : Hid (Below w.heap.size w w3) := (HB1.out.trans (HI.out.bel.mono HB1.out.size)).trans (hb3.mono (Nat.le_trans HB1.out.size HI.out.bel.size))
          clear hrd hp3 hlo3 hb3 c0 c1
          go_wp2_with (fail)
          go_ret2
          rw [hF.out, hF2.out]
          exact ⟨none, 0, 0, rfl, Pin.zero _, (fun x hx => by cases hx), HB3.out⟩
        | true =>
          rw [hok] at hrd
          have HOK := Lib.hid hok
          have hL : rdL B R k q (t : Int) = brV B R (t : Int) k := by rw [rdL, hok, if_pos rfl]
          rw [hL] at hrd
          clear hok hL
          go_wp2_with (fail)
          refine hrd.mono ?_
          rintro e w3 ⟨a3, n3, c3, rfl, hp3, hlo3, hb3⟩
          have hB3 : Below W1.heap.size W1 w3 := HI.out.bel.trans (hb3.mono HI.out.bel.size)
          have hO3 := HI.out.own.next hb3
          have hap : Hid (n3 = 0 ∨ ∀ y, a3 = some y → some y.block ≠ (Value.slice ra (cnt x t) rc).ownBlock) := .inr fun y hy e2 => by
            have h5 := hlo3 y hy
            have h6 := (HI.out.own.row.lt _ e2.symm).2
            omega
          clear hrd c0 c1 hb3 hlo3
          have HO4 : Hid (OwnR (w3.alloc (.cells #[.slice a3 n3 c3] 42 (0, 0))) W1.heap.size (.slice ra (cnt x t) rc) (cnt x t) f) := hO3.next ((Below.refl _ _).alloc (Nat.le_refl _) _)
          have HP4 : Hid (Pin (w3.alloc (.cells #[.slice a3 n3 c3] 42 (0, 0))) a3 n3 c3 (brV B R (t : Int) k)) := hp3.alloc _
          have HB4 : Hid (Below W1.heap.size W1 (w3.alloc (.cells #[.slice a3 n3 c3] 42 (0, 0)))) := hB3.alloc hB3.size _
          have HC4 : Hid ((w3.alloc (.cells #[.slice a3 n3 c3] 42 (0, 0))).cell? ⟨w3.heap.size, 0, none⟩ = some (.slice a3 n3 c3)) := by show _ = _; simp
          have hcn : Hid (cnt x t + 1 ≤ 1000000000000) := by show _ ≤ _; unfold cnt; split <;> omega
          clear hp3 hB3 hO3
          go_wp2_with (at_builtin; go_must (refine wpList_apR rfl (.tmp 34) (.tmp 36) rfl W1.heap.size _ (cnt x t) f rfl HO4.out w3.heap.size rfl a3 n3 c3 (brV B R (t : Int) k) HC4.out HP4.out hap.out hcn.out HB4.out.size W1 HB4.out ?_); intro v5 w5 hO5 hb5 hgr5 hat5)
          go_roundw
          case rel =>
            have e1 : cnt x (t + 1) = cnt x t + 1 := by have := HT.out; unfold cnt; split <;> split <;> omega
            have e2 : skp x (cnt x t) = t := by have := HT.out; unfold skp cnt; split <;> split <;> omega
            refine ⟨t + 1, _, by omega, by go_num, ⟨by rw [e1]; exact hO5, by rw [allO, HI.out.all, HOK.out]; simp, fun j hj => ?_, hb5⟩⟩
            rw [e1] at hj
            rcases Nat.lt_or_ge j (cnt x t) with h1 | h1
            · rw [snoc_old h1]; exact HI.out.zs j h1
            · obtain rfl : j = cnt x t := by omega
              rw [snoc_new, e2]
          case measure => simp [RowKit.intOf]; omega
    · obtain rfl : t = n := by omega
      have e1 : cnt x t = t - 1 := by unfold cnt; split <;> omega
      obtain ⟨ra, rc, rfl, hrw, hnc, hcm, _⟩ := hI.own.rws
      have hp := restore_n ra (cnt x t) rc f wr hrw (by rw [e1]; omega)
      rw [e1, parL_congr (g := oth B R k x) (fun i hi => hI.zs i (by rw [e1]; exact hi)), oneSeq_congr (g := oth B R k x) (fun i hi => hI.zs i (by rw [e1]; exact hi))] at hp
      have eO : resO B R k q x t = oneSeq (oth B R k x) (t - 1) := by rw [resO, hI.all, Bool.true_and]
      have eL : resL B R k q x t = parL (oth B R k x) (t - 1) := by
        rw [resL, eO]
        by_cases h : oneSeq (oth B R k x) (t - 1) = true
        · rw [if_pos h]
        · rw [if_neg h, parL, if_neg h]
      rw [e1]
      have EO := Lib.hid eO
      have EL := Lib.hid eL
      have HI := Lib.hid hI
      clear hI c0 c1 hrw eO eL e1
      go_wp2_with (fail)
      refine hp.mono ?_
      rintro e w6 ⟨a6, n6, c6, rfl, hp6, hlo6, hb6⟩
      have HBX : Hid (Below w.heap.size w w6) := (HB1.out.trans (HI.out.bel.mono HB1.out.size)).trans (hb6.mono (Nat.le_trans HB1.out.size HI.out.bel.size))
      have HLO : Hid (∀ x, a6 = some x → w.heap.size ≤ x.block) := fun y hy => Nat.le_trans (Nat.le_trans HB1.out.size HI.out.bel.size) (hlo6 y hy)
      clear hp hb6 hlo6
      go_wp2_with (fail)
      go_ret2
      rw [EO.out, EL.out]
      exact ⟨a6, n6, c6, rfl, hp6, HLO.out, HBX.out⟩
end

end Go.Proofs.YtegmeoghonolcaaGreat

/-
  The stripe's Read, by contract.
-/
namespace Go.Proofs.YtegmeoghonolcaaGreat
open Go.RowKit Go.Maps
set_option linter.unusedVariables false

/-- A block, as a value. -/
abbrev blV (o i : Int) (a : Option Addr) (n c : Nat) : Value := .agg #[.int .i64 o, .int .i64 i, .slice a n c]
theorem bkO_yes {B : Bn} {g k : Int} (h : bkO B g k = true) : Bk B.d B.r B.s g k := by
  classical
  unfold bkO at h
  by_cases hh : Bk B.d B.r B.s g k
  · exact hh
  · rw [decide_eq_false hh] at h; cases h
theorem spD_lt {B : Bn} {n : Nat} {g k : Int} (hd : B.d = (n : Int)) (h : bkO B g k = true) : ∃ x : Nat, spD B g k = x ∧ x < n := by
  have hb := bkO_yes h
  have d1 := hb.d1
  rw [spD, if_pos h]
  unfold BD
  have a := Int.emod_nonneg (PD B.d (g * B.r + k / (B.d - 1)) + 1 + k % (B.d - 1)) (show B.d ≠ 0 by omega)
  have c := Int.emod_lt_of_pos (PD B.d (g * B.r + k / (B.d - 1)) + 1 + k % (B.d - 1)) (show 0 < B.d by omega)
  obtain ⟨x, hx⟩ := Int.eq_ofNat_of_zero_le a
  exact ⟨x, hx, by omega⟩
/-- What Read reads. -/
noncomputable def rbL (B : Bn) (R : Rk) (n : Nat) (g k q : Int) : List Int :=
  if chkE R (bkO B g k) = 0 then (if rdO B R (spS B g k) q (spD B g k) then brV B R (spD B g k) (spS B g k) else resL B R (spS B g k) q (spD B g k).toNat n) else []
noncomputable def rbE (B : Bn) (R : Rk) (n : Nat) (g k q : Int) : Int :=
  if chkE R (bkO B g k) = 0 then (if rdO B R (spS B g k) q (spD B g k) || resO B R (spS B g k) q (spD B g k).toNat n then 0 else 14) else chkE R (bkO B g k)
def RbPost (w : World) (zs : List Int) (er : Int) (e : Ending) (w' : World) : Prop :=
  ∃ a n c, e = .returned (.tuple #[blV (decN zs 4 2) (decN zs 6 2) a n c, .int .i64 er]) ∧ Pin w' a n c (decL zs) ∧ Below w.heap.size w w'
/-- The cells of a block's box. -/
structure Bb (w : World) (b : Nat) : Prop where
  lt : b < w.heap.size
  c0 : ∃ v, w.cell? ⟨b, 0, none⟩ = some v
  c1 : ∃ v, w.cell? ⟨b, 1, none⟩ = some v
  c2 : ∃ v, w.cell? ⟨b, 2, none⟩ = some v
  f0 : w.frozen? ⟨b, 0, none⟩ = false
  f1 : w.frozen? ⟨b, 1, none⟩ = false
  f2 : w.frozen? ⟨b, 2, none⟩ = false
theorem Bb.next {w w' : World} {b : Nat} (h : Bb w b) (hb : Below w.heap.size w w') : Bb w' b := by
  have hl := h.lt
  obtain ⟨v, hv⟩ := h.c0
  obtain ⟨u, hu⟩ := h.c1
  obtain ⟨t, ht⟩ := h.c2
  exact ⟨Nat.lt_of_lt_of_le h.lt hb.size, ⟨v, (hb.cell (p := ⟨b, 0, none⟩) hl).trans hv⟩, ⟨u, (hb.cell (p := ⟨b, 1, none⟩) hl).trans hu⟩, ⟨t, (hb.cell (p := ⟨b, 2, none⟩) hl).trans ht⟩, (hb.frozen (p := ⟨b, 0, none⟩) hl).trans h.f0, (hb.frozen (p := ⟨b, 1, none⟩) hl).trans h.f1, (hb.frozen (p := ⟨b, 2, none⟩) hl).trans h.f2⟩

theorem set_three {w : World} {g : Nat} {x0 x1 x2 : Value} (c0 : w.cell? ⟨g, 0, none⟩ = some x0) (c1 : w.cell? ⟨g, 1, none⟩ = some x1) (c2 : w.cell? ⟨g, 2, none⟩ = some x2) (u0 u1 u2 : Value) :
    (((w.setCell ⟨g, 0, none⟩ u0).setCell ⟨g, 1, none⟩ u1).setCell ⟨g, 2, none⟩ u2).cell? ⟨g, 0, none⟩ = some u0 ∧ (((w.setCell ⟨g, 0, none⟩ u0).setCell ⟨g, 1, none⟩ u1).setCell ⟨g, 2, none⟩ u2).cell? ⟨g, 1, none⟩ = some u1 ∧ (((w.setCell ⟨g, 0, none⟩ u0).setCell ⟨g, 1, none⟩ u1).setCell ⟨g, 2, none⟩ u2).cell? ⟨g, 2, none⟩ = some u2 := by
  have n01 : (⟨g, 0, none⟩ : Addr) ≠ ⟨g, 1, none⟩ := by simp
  have n02 : (⟨g, 0, none⟩ : Addr) ≠ ⟨g, 2, none⟩ := by simp
  have n12 : (⟨g, 1, none⟩ : Addr) ≠ ⟨g, 2, none⟩ := by simp
  refine ⟨?_, ?_, ?_⟩
  · rw [World.cell?_setCell_other _ _ _ _ n02.symm, World.cell?_setCell_other _ _ _ _ n01.symm]
    exact cell_set_same _ _ _ _ _ c0
  · rw [World.cell?_setCell_other _ _ _ _ n12.symm]
    exact cell_set_same _ _ _ _ _ ((World.cell?_setCell_other _ _ _ _ n01).trans c1)
  · exact cell_set_same _ _ _ _ _ (((World.cell?_setCell_other _ _ _ _ n12).trans (World.cell?_setCell_other _ _ _ _ n02)).trans c2)
section
variable {M : Nat → Prop} {L : Lay} {R : Rk} {w : World} {b : Nat} {B : Bn}
set_option maxRecDepth 100000 in
set_option maxHeartbeats 4000000 in
theorem sRead_any {n : Nat} (g k q : Int) (hr : RackAt w M L R) (hb : BnAt w b L.p B) (hd : B.d = (n : Int)) (hn : n ≤ 16) :
    Calls Tryz.prog 81 #[.pointer (some ⟨b, 0, none⟩), .int .i64 g, .int .i64 k, .int .i64 q] w (RbPost w (rbL B R n g k q) (rbE B R n g k q)) := by
  obtain ⟨W1, hW1⟩ : ∃ W1, W1 = w.alloc (.cells #[.int .i64 0, .int .i64 0, .slice none 0 0] 65 (0, 0)) := ⟨_, rfl⟩
  obtain ⟨gb, hgb⟩ : ∃ gb, gb = w.heap.size := ⟨_, rfl⟩
  have hB1 : Below w.heap.size w W1 := by rw [hW1]; exact (Below.refl _ _).alloc (Nat.le_refl _) _
  have hx1 : Bb W1 gb := by rw [hW1, hgb]; exact ⟨by simp, ⟨.int .i64 0, by simp⟩, ⟨.int .i64 0, by simp⟩, ⟨.slice none 0 0, by simp⟩, by simp, by simp, by simp⟩
  have HG := Lib.hid hgb
  have hsp := spotOf_any g k (hb.next hB1)
  have HR := Lib.hid hr
  have HB := Lib.hid hb
  have hxl := fun h => spD_lt (B := B) (g := g) (k := k) hd h
  obtain ⟨zs, hzs⟩ : ∃ zs, zs = rbL B R n g k q := ⟨_, rfl⟩
  obtain ⟨er, her⟩ : ∃ er, er = rbE B R n g k q := ⟨_, rfl⟩
  rw [← hzs, ← her]
  unfold rbL at hzs
  unfold rbE at her
  obtain ⟨ok, hok⟩ : ∃ ok, ok = bkO B g k := ⟨_, rfl⟩
  obtain ⟨x, hx⟩ : ∃ x, x = spD B g k := ⟨_, rfl⟩
  obtain ⟨z, hz⟩ : ∃ z, z = spS B g k := ⟨_, rfl⟩
  rw [← hok, ← hx] at hxl
  rw [← hok, ← hx, ← hz] at hsp hzs her
  have HXL := Lib.hid hxl
  have HZS := Lib.hid hzs
  have HER := Lib.hid her
  clear hr hb hok hx hz hxl hzs her
  have HD := Lib.hid hd
  go_enter Tryz.func81, Tryz.ntmps81
  go_wp2_with (fail)
  rw [← hW1, ← hgb]
  clear hW1 hgb
  refine hsp.mono ?_
  rintro e w2 ⟨rfl, hb2⟩
  have hB2 := hB1.trans (hb2.mono hB1.size)
  have hx2 := (hx1.next hb2).next ((Below.refl _ _).alloc (Nat.le_refl _) (.cells #[.int .i64 x, .int .i64 z] 150 (0, 0)))
  obtain ⟨W3, hW3⟩ : ∃ W3, W3 = w2.alloc (.cells #[.int .i64 x, .int .i64 z] 150 (0, 0)) := ⟨_, rfl⟩
  obtain ⟨gs, hgs⟩ : ∃ gs, gs = w2.heap.size := ⟨_, rfl⟩
  have hB3 : Below w.heap.size w W3 := by rw [hW3]; exact hB2.alloc hB2.size _
  have s0 : W3.cell? ⟨gs, 0, none⟩ = some (.int .i64 x) := by rw [hW3, hgs]; simp
  have s1 : W3.cell? ⟨gs, 1, none⟩ = some (.int .i64 z) := by rw [hW3, hgs]; simp
  have sl : gs < W3.heap.size := by rw [hW3, hgs]; simp
  have hch := check_any ok (HR.out.below hB3) (HB.out.next hB3)
  rw [← hW3] at hx2
  have HX2 := Lib.hid hx2
  have HB3 := Lib.hid hB3
  clear hsp hb2 hB1 hx1 hB2 hx2 hB3
  go_wp2_with (fail)
  rw [← hW3, ← hgs]
  clear hW3 hgs
  refine hch.mono ?_
  rintro e w4 ⟨rfl, rfl⟩
  obtain ⟨c, hc⟩ : ∃ c, c = chkE R ok := ⟨_, rfl⟩
  rw [← hc] at HZS HER ⊢
  have HC := Lib.hid hc
  clear hch hc
  by_cases h0 : c = 0
  · subst h0
    have hok : ok = true := by
      have := HC.out
      unfold chkE at this
      cases ok
      · cases this
      · rfl
    obtain ⟨i, hi, hin⟩ := HXL.out hok
    subst hi
    have hrd := sread_any (i : Int) z q (HR.out.below HB3.out) (HB.out.next HB3.out)
    have HIN := Lib.hid hin
    clear hok hin
    cases hro : rdO B R z q (i : Int) with
    | true =>
      have eZ : Hid (zs = brV B R i z) := by show _ = _; rw [HZS.out, if_pos rfl, if_pos hro]
      have eE : Hid (er = 0) := by show _ = _; rw [HER.out, if_pos rfl, hro]; rfl
      rw [hro] at hrd
      rw [show rdL B R z q (i : Int) = zs by rw [rdL, if_pos hro, eZ.out]] at hrd
      clear hro
      go_wp2_with (fail)
      refine hrd.mono ?_
      rintro e w5 ⟨a5, n5, c5, rfl, hp5, _, hb5⟩
      have hdc := decn_any a5 n5 c5 zs w5 hp5
      have HB5 := Lib.hid (HB3.out.trans (hb5.mono HB3.out.size))
      have HX5 := Lib.hid (HX2.out.next hb5)
      clear hrd hp5 hb5 s0 s1
      go_wp2_with (fail)
      refine hdc.mono ?_
      rintro e w6 ⟨a6, n6, c6, rfl, hp6, hn6, hb6⟩
      have HN6 : Hid (∀ y, a6 = some y → y.block ≠ gb) := fun y hy => by have := hn6 y hy; have := HX5.out.lt; omega
      have HB6 := HB5.out.trans (hb6.mono HB5.out.size)
      have HX6 := HX5.out.next hb6
      have HP6 := Lib.hid hp6
      have HBF := Lib.hid HB6
      obtain ⟨o1, ho1⟩ : ∃ o, o = decN zs 4 2 := ⟨_, rfl⟩
      obtain ⟨o2, ho2⟩ : ∃ o, o = decN zs 6 2 := ⟨_, rfl⟩
      obtain ⟨o0, ho0⟩ : ∃ o, o = decN zs 0 4 := ⟨_, rfl⟩
      rw [← ho1, ← ho2, ← ho0]
      have HO1 := Lib.hid ho1
      have HO2 := Lib.hid ho2
      obtain ⟨lt, ⟨v0, c0⟩, ⟨v1, c1⟩, ⟨v2, c2⟩, f0, f1, f2⟩ := HX6
      clear hdc hp6 hb6 hn6 HB6 ho1 ho2 ho0
      go_wp2_with (fail)
      refine bodyPost_ret (v := .tuple #[blV o1 o2 a6 n6 c6, .int .i64 0]) ?_ rfl ⟨a6, n6, c6, ?_, ?_, ?_⟩
      · obtain ⟨e0, e1, e2⟩ := set_three c0 c1 c2 (.int .i64 o1) (.int .i64 o2) (.slice a6 n6 c6)
        have e0 := cell_alloc_l (.cells #[.int .i64 o0, .int .i64 o1, .int .i64 o2] 102) e0
        have e1 := cell_alloc_l (.cells #[.int .i64 o0, .int .i64 o1, .int .i64 o2] 102) e1
        have e2 := cell_alloc_l (.cells #[.int .i64 o0, .int .i64 o1, .int .i64 o2] 102) e2
        simp [results, Tryz.results81, go_sem, e0, e1, e2]
      · rw [← HO1.out, ← HO2.out, eE.out]
      · exact (((HP6.out.setCell _ (.inr HN6.out)).setCell _ (.inr HN6.out)).setCell _ (.inr HN6.out)).alloc _
      · have hg := HG.out
        exact (((HBF.out.setCell (p := ⟨gb, 0, none⟩) (by show _ ≤ gb; omega) _).setCell (p := ⟨gb, 1, none⟩) (by show _ ≤ gb; omega) _).setCell (p := ⟨gb, 2, none⟩) (by show _ ≤ gb; omega) _).alloc (by simpa using HBF.out.size) _
    | false =>
      rw [hro] at hrd
      have HRS : Hid (∀ w', Below w.heap.size w w' → Calls Tryz.prog 121 #[.pointer (some ⟨b, 0, none⟩), spV i z, .int .i64 q] w' (RetN w' (resL B R z q i n) (resO B R z q i n))) := fun w' hb' =>
        srestore_any z q (HR.out.below hb') (HB.out.next hb') HD.out hn HIN.out
      have HZ2 : Hid (zs = resL B R z q i n) := by show _ = _; rw [HZS.out, if_pos rfl, hro]; rfl
      have HE2 : Hid (er = if resO B R z q i n then 0 else 14) := by show _ = _; rw [HER.out, if_pos rfl, hro]; rfl
      clear hro
      go_wp2_with (fail)
      refine hrd.mono ?_
      rintro e w5 ⟨a5, n5, c5, rfl, _, _, hb5⟩
      have t0 := (hb5.cell (p := ⟨gs, 0, none⟩) sl).trans s0
      have t1 := (hb5.cell (p := ⟨gs, 1, none⟩) sl).trans s1
      have HB3' := Lib.hid (HB3.out.trans (hb5.mono HB3.out.size))
      have HX2' := Lib.hid (HX2.out.next hb5)
      have hrs := HRS.out w5 HB3'.out
      clear hrd hb5 s0 s1 HB3 HX2
      have HB3 := HB3'
      have HX2 := HX2'
      clear HB3' HX2' HRS
      cases hre : resO B R z q i n with
      | true =>
        have eZ := HZ2
        have eE : Hid (er = 0) := by show _ = _; rw [HE2.out, hre]; rfl
        rw [hre] at hrs
        rw [← HZ2.out] at hrs
        clear hre
        go_wp2_with (fail)
        refine hrs.mono ?_
        rintro e w5' ⟨a5, n5, c5, rfl, hp5, _, hb5⟩
        have hdc := decn_any a5 n5 c5 zs w5' hp5
        have HB5 := Lib.hid (HB3.out.trans (hb5.mono HB3.out.size))
        have HX5 := Lib.hid (HX2.out.next hb5)
        clear hrs hp5 hb5 t0 t1
        go_wp2_with (fail)
        refine hdc.mono ?_
        rintro e w6 ⟨a6, n6, c6, rfl, hp6, hn6, hb6⟩
        have HN6 : Hid (∀ y, a6 = some y → y.block ≠ gb) := fun y hy => by have := hn6 y hy; have := HX5.out.lt; omega
        have HB6 := HB5.out.trans (hb6.mono HB5.out.size)
        have HX6 := HX5.out.next hb6
        have HP6 := Lib.hid hp6
        have HBF := Lib.hid HB6
        obtain ⟨o1, ho1⟩ : ∃ o, o = decN zs 4 2 := ⟨_, rfl⟩
        obtain ⟨o2, ho2⟩ : ∃ o, o = decN zs 6 2 := ⟨_, rfl⟩
        obtain ⟨o0, ho0⟩ : ∃ o, o = decN zs 0 4 := ⟨_, rfl⟩
        rw [← ho1, ← ho2, ← ho0]
        have HO1 := Lib.hid ho1
        have HO2 := Lib.hid ho2
        obtain ⟨lt, ⟨v0, c0⟩, ⟨v1, c1⟩, ⟨v2, c2⟩, f0, f1, f2⟩ := HX6
        clear hdc hp6 hb6 hn6 HB6 ho1 ho2 ho0
        go_wp2_with (fail)
        refine bodyPost_ret (v := .tuple #[blV o1 o2 a6 n6 c6, .int .i64 0]) ?_ rfl ⟨a6, n6, c6, ?_, ?_, ?_⟩
        · obtain ⟨e0, e1, e2⟩ := set_three c0 c1 c2 (.int .i64 o1) (.int .i64 o2) (.slice a6 n6 c6)
          have e0 := cell_alloc_l (.cells #[.int .i64 o0, .int .i64 o1, .int .i64 o2] 102) e0
          have e1 := cell_alloc_l (.cells #[.int .i64 o0, .int .i64 o1, .int .i64 o2] 102) e1
          have e2 := cell_alloc_l (.cells #[.int .i64 o0, .int .i64 o1, .int .i64 o2] 102) e2
          simp [results, Tryz.results81, go_sem, e0, e1, e2]
        · rw [← HO1.out, ← HO2.out, eE.out]
        · exact (((HP6.out.setCell _ (.inr HN6.out)).setCell _ (.inr HN6.out)).setCell _ (.inr HN6.out)).alloc _
        · have hg := HG.out
          exact (((HBF.out.setCell (p := ⟨gb, 0, none⟩) (by show _ ≤ gb; omega) _).setCell (p := ⟨gb, 1, none⟩) (by show _ ≤ gb; omega) _).setCell (p := ⟨gb, 2, none⟩) (by show _ ≤ gb; omega) _).alloc (by simpa using HBF.out.size) _
      | false =>
        have eZ : Hid (zs = []) := by show _ = _; rw [HZ2.out, resL, hre]; rfl
        have eE : Hid (er = 14) := by show _ = _; rw [HE2.out, hre]; rfl
        rw [hre] at hrs
        clear hre
        go_wp2_with (fail)
        refine hrs.mono ?_
        rintro e w6 ⟨a6, n6, c6, rfl, _, _, hb6⟩
        have HBX := Lib.hid (HB3.out.trans (hb6.mono HB3.out.size))
        have HXX := Lib.hid (HX2.out.next hb6)
        clear hrs hb6 t0 t1
        obtain ⟨lt, ⟨v0, c0⟩, ⟨v1, c1⟩, ⟨v2, c2⟩, f0, f1, f2⟩ := HXX.out
        go_wp2_with (fail)
        refine bodyPost_ret (v := .tuple #[blV 0 0 none 0 0, .int .i64 14]) ?_ rfl ⟨none, 0, 0, ?_, ?_, ?_⟩
        · obtain ⟨e0, e1, e2⟩ := set_three c0 c1 c2 (.int .i64 0) (.int .i64 0) (.slice none 0 0)
          simp [results, Tryz.results81, go_sem, e0, e1, e2]
        · rw [eZ.out, eE.out]; rfl
        · rw [eZ.out]; exact Pin.zero _
        · have hg := HG.out
          exact ((HBX.out.setCell (p := ⟨gb, 0, none⟩) (by show _ ≤ gb; omega) _).setCell (p := ⟨gb, 1, none⟩) (by show _ ≤ gb; omega) _).setCell (p := ⟨gb, 2, none⟩) (by show _ ≤ gb; omega) _
  · have eZ : Hid (zs = []) := by show _ = _; rw [HZS.out, if_neg h0]
    have eE : Hid (er = c) := by show _ = _; rw [HER.out, if_neg h0]
    have hc0 : (c == 0) = false := by simpa using h0
    have HBX := HB3
    have HXX := HX2
    obtain ⟨lt, ⟨v0, c0⟩, ⟨v1, c1⟩, ⟨v2, c2⟩, f0, f1, f2⟩ := HXX.out
    go_wp2_with (fail)
    refine bodyPost_ret (v := .tuple #[blV 0 0 none 0 0, .int .i64 c]) ?_ rfl ⟨none, 0, 0, ?_, ?_, ?_⟩
    · obtain ⟨e0, e1, e2⟩ := set_three c0 c1 c2 (.int .i64 0) (.int .i64 0) (.slice none 0 0)
      simp [results, Tryz.results81, go_sem, e0, e1, e2]
    · rw [eZ.out, eE.out]; rfl
    · rw [eZ.out]; exact Pin.zero _
    · have hg := HG.out
      exact ((HBX.out.setCell (p := ⟨gb, 0, none⟩) (by show _ ≤ gb; omega) _).setCell (p := ⟨gb, 1, none⟩) (by show _ ≤ gb; omega) _).setCell (p := ⟨gb, 2, none⟩) (by show _ ≤ gb; omega) _
end

end Go.Proofs.YtegmeoghonolcaaGreat
