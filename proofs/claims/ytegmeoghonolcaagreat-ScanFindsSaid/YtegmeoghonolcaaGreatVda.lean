/-
  Plain words for the laws of stripe: a row of three sectors, each told by the others.
-/
import Derived.Test.YtegmeoghonolcaaGreatWrb
import Derived.Test.YtegmeoghonolcaaGreatRwa
import Derived.Test.YtegmeoghonolcaaGreatRda
import Derived.Test.YtegmeoghonolcaaGreatWhb
set_option linter.unusedSimpArgs false
set_option linter.unusedVariables false
namespace Go.Proofs.YtegmeoghonolcaaGreat
open Go.RowKit

theorem getN_app (p : List Int) (m : Nat) (n : Int) (q : List Int) (h0 : 0 ≤ n) (h1 : n < 256 ^ m) : getN (p ++ (digs m n ++ q)) p.length m = n := by
  induction m generalizing p n with
  | zero => simp [getN] at *; omega
  | succ m ih =>
    have hb : byt (p ++ (digs (m + 1) n ++ q)) p.length = n % 256 := by
      show byt (p ++ (digs (m + 1) n ++ q)) (p.length + 0) = n % 256
      rw [byt_app_right]
      rfl
    have hr := ih (p ++ [n % 256]) (n / 256) (by omega) (by rw [Int.pow_succ] at h1; omega)
    rw [List.length_append, List.length_singleton] at hr
    rw [getN, hb, show p ++ (digs (m + 1) n ++ q) = p ++ [n % 256] ++ (digs m (n / 256) ++ q) by simp [digs], hr]
    omega
theorem hasW4 {n : Int} (h : hasW n 4 = true) : 0 ≤ n ∧ n < 4294967296 := by simp [hasW] at h; omega
theorem hasW2 {n : Int} (h : hasW n 2 = true) : 0 ≤ n ∧ n < 65536 := by simp [hasW] at h; omega
theorem hasW4_of {n : Int} (h0 : 0 ≤ n) (h : n < 4294967296) : hasW n 4 = true := by simp [hasW]; omega
theorem hasW2_of {n : Int} (h0 : 0 ≤ n) (h : n < 65536) : hasW n 2 = true := by simp [hasW]; omega
theorem putL4 {n : Int} (h : hasW n 4 = true) : putL 4 n = digs 4 n := putL_yes (m := 4) (by omega) (by omega) h
theorem putL2 {n : Int} (h : hasW n 2 = true) : putL 2 n = digs 2 n := putL_yes (m := 2) (by omega) (by omega) h
/-- What was encoded, and how it is decoded. -/
structure EncOk (s o i : Int) (x : List Int) : Prop where
  fit : x.length ≤ 56
  ws : hasW s 4 = true
  wo : hasW o 2 = true
  wi : hasW i 2 = true
  eq : encL s o i x = digs 4 s ++ (digs 2 o ++ (digs 2 i ++ padL x 56))
  len : (encL s o i x).length = 64
  d0 : decN (encL s o i x) 0 4 = s
  d1 : decN (encL s o i x) 4 2 = o
  d2 : decN (encL s o i x) 6 2 = i
  dl : decL (encL s o i x) = padL x 56
  dO : decO (encL s o i x) = true
theorem encO_ok {s o i : Int} {x : List Int} (h : encO s o i x = true) : EncOk s o i x := by
  have h' := h
  rw [encO, Bool.and_eq_true, decide_eq_true_eq, okH, Bool.and_eq_true, Bool.and_eq_true] at h'
  obtain ⟨hx, ⟨h1, h2⟩, h3⟩ := h'
  have heq : encL s o i x = digs 4 s ++ (digs 2 o ++ (digs 2 i ++ padL x 56)) := by
    rw [encL, h, if_pos rfl, headL, putL4 h1, putL2 h2, putL2 h3]
    simp only [List.append_assoc]
  have hlen : (encL s o i x).length = 64 := by
    rw [heq]
    simp only [List.length_append, digs_len, padL_len hx]
  have hO : decO (encL s o i x) = true := by simp [decO, hlen]
  have b1 := hasW4 h1
  have b2 := hasW2 h2
  have b3 := hasW2 h3
  refine ⟨hx, h1, h2, h3, heq, hlen, ?_, ?_, ?_, ?_, hO⟩
  · rw [decN, hO, if_pos rfl, heq]
    exact getN_app [] 4 s _ b1.1 (by omega)
  · rw [decN, hO, if_pos rfl, heq]
    have := getN_app (digs 4 s) 2 o (digs 2 i ++ padL x 56) b2.1 (by omega)
    rwa [digs_len] at this
  · rw [decN, hO, if_pos rfl, heq, ← List.append_assoc]
    have := getN_app (digs 4 s ++ digs 2 o) 2 i (padL x 56) b3.1 (by omega)
    rwa [List.length_append, digs_len, digs_len] at this
  · rw [decL, hO, if_pos rfl, heq, ← List.append_assoc, ← List.append_assoc]
    exact List.drop_left' (by simp [digs_len])
theorem byt_out {x y : List Int} (h : x.length = 4) (j : Nat) : byt (x ++ y) j = if j < 4 then byt x j else byt y (j - 4) := by
  by_cases hj : j < 4
  · rw [if_pos hj, byt_app_left (by omega)]
  · rw [if_neg hj]
    obtain ⟨m, rfl⟩ : ∃ m, j = x.length + m := ⟨j - 4, by omega⟩
    rw [byt_app_right, h, Nat.add_sub_cancel_left]

/-- A row of three sectors of one writing. -/
structure Rw3 (x : Nat → List Int) (q : Int) : Prop where
  len : ∀ s, s < 3 → (x s).length = 64
  sm : ∀ s, s < 3 → AllB (x s)
  t4 : ∀ s, s < 3 → (x s).take 4 = digs 4 q
  q0 : 0 ≤ q
  q1 : q < 4294967296
  tot : ∀ t, t < 60 → xr (xr (byt (x 0) (4 + t)) (byt (x 1) (4 + t))) (byt (x 2) (4 + t)) = 0
theorem Rw3.seq {x : Nat → List Int} {q : Int} (h : Rw3 x q) {s : Nat} (hs : s < 3) : decN (x s) 0 4 = q := by
  have hl := h.len s hs
  have e : x s = digs 4 q ++ (x s).drop 4 := by rw [← h.t4 s hs, List.take_append_drop]
  rw [decN, show decO (x s) = true by simp [decO, hl], if_pos rfl, e]
  exact getN_app [] 4 q _ h.q0 (by have := h.q1; omega)
theorem xr_swap (a b c : Int) : xr (xr a b) c = xr (xr a c) b := by rw [xr_assoc, xr_comm b c, ← xr_assoc]
theorem xr_solve {a b c : Int} (_ : 0 ≤ a) (_ : 0 ≤ b) (hc : 0 ≤ c) (h : xr (xr a b) c = 0) : xr a b = c := by
  have h1 : xr (xr (xr a b) c) c = xr a b := by rw [xr_assoc, xr_self]; exact xr_zero (by unfold xr; omega)
  rw [← h1, h, xr_comm, xr_zero hc]
/-- The sum of two sectors. -/
theorem sum_two {f : Nat → Pc} {a b : List Int} (h0 : (f 0).zs = a) (h1 : (f 1).zs = b) (la : a.length = 64) (lb : b.length = 64) (sa : AllB a) :
    (sumP f 2).length = 60 ∧ ∀ t, t < 60 → byt (sumP f 2) t = xr (byt a (4 + t)) (byt b (4 + t)) := by
  have e : sumP f 2 = xorL (xorL [] (a.drop 4)) (b.drop 4) := by rw [sumP, sumP, sumP, h0, h1]
  have l1 : (xorL [] (a.drop 4)).length = 60 := by rw [xorL_len, List.length_drop, la]; rfl
  refine ⟨by rw [e, xorL_len, l1, List.length_drop, lb]; rfl, fun t ht => ?_⟩
  rw [e, byt_xorL (by rw [l1]; omega), byt_xorL (by rw [List.length_drop, la]; omega), byt_drop, byt_drop]
  have : byt ([] : List Int) t = 0 := rfl
  rw [this, xr_comm 0, xr_zero (byt_bd sa _).1]
theorem one_two {f : Nat → Pc} {a b : List Int} {q : Int} (h0 : (f 0).zs = a) (h1 : (f 1).zs = b) (la : a.length = 64) (lb : b.length = 64) (ta : a.take 4 = digs 4 q) (tb : b.take 4 = digs 4 q) : oneSeq f 2 = true := by
  have : oneUpto f 2 = true := oneUpto_of fun k hk => by
    rcases (by omega : k = 0 ∨ k = 1) with rfl | rfl
    · rw [h0]; exact ⟨la, rfl⟩
    · rw [h0, h1]; exact ⟨lb, by rw [ta, tb]⟩
  rw [oneSeq, this]
  rfl
theorem par_len {f : Nat → Pc} {a b : List Int} {q : Int} (h0 : (f 0).zs = a) (h1 : (f 1).zs = b) (la : a.length = 64) (lb : b.length = 64) (sa : AllB a) (sb : AllB b) (ta : a.take 4 = digs 4 q) (tb : b.take 4 = digs 4 q) :
    (parL f 2).length = 64 ∧ AllB (parL f 2) ∧ (parL f 2).take 4 = digs 4 q ∧ ∀ t, t < 60 → byt (parL f 2) (4 + t) = xr (byt a (4 + t)) (byt b (4 + t)) := by
  have ho := one_two h0 h1 la lb ta tb
  obtain ⟨hl, hs⟩ := sum_two h0 h1 la lb sa
  have e : parL f 2 = digs 4 q ++ sumP f 2 := by rw [parL, ho, if_pos rfl, h0, ta]
  have l4 := digs_len 4 q
  refine ⟨by rw [e, List.length_append, l4, hl], ?_, by rw [e]; exact List.take_left' l4, fun t ht => ?_⟩
  · rw [e]
    refine (digs_small 4 q).app ?_
    rw [sumP, sumP, sumP, h0, h1]
    exact xorL_small (xorL_small (fun x hx => by cases hx) (sa.drop 4)) (sb.drop 4)
  · rw [e, byt_out l4, if_neg (by omega), Nat.add_sub_cancel_left, hs t ht]
/-- Any one of the three is told by the others. -/
theorem Rw3.restored {x : Nat → List Int} {q : Int} (h : Rw3 x q) {k : Nat} (hk : k < 3) {f : Nat → Pc} (hf : ∀ j, j < 2 → (f j).zs = x (skp k j)) : oneSeq f 2 = true ∧ parL f 2 = x k := by
  have s0 : skp k 0 < 3 := by unfold skp; split <;> omega
  have s1 : skp k 1 < 3 := by unfold skp; split <;> omega
  have h0 := hf 0 (by omega)
  have h1 := hf 1 (by omega)
  have l0 := h.len _ s0
  have l1 := h.len _ s1
  obtain ⟨a, b, c, d⟩ := par_len h0 h1 l0 l1 (h.sm _ s0) (h.sm _ s1) (h.t4 _ s0) (h.t4 _ s1)
  refine ⟨one_two h0 h1 l0 l1 (h.t4 _ s0) (h.t4 _ s1), ?_⟩
  refine byt_ext (by rw [a, h.len k hk]) fun j hj => ?_
  rw [a] at hj
  by_cases hj4 : j < 4
  · rw [← byt_take (n := 4) hj4, c, ← byt_take (zs := x k) (n := 4) hj4, h.t4 k hk]
  · obtain ⟨t, rfl⟩ : ∃ t, j = 4 + t := ⟨j - 4, by omega⟩
    rw [d t (by omega)]
    have ht := h.tot t (by omega)
    have p0 := (byt_bd (h.sm 0 (by omega)) (4 + t)).1
    have p1 := (byt_bd (h.sm 1 (by omega)) (4 + t)).1
    have p2 := (byt_bd (h.sm 2 (by omega)) (4 + t)).1
    rcases (by omega : k = 0 ∨ k = 1 ∨ k = 2) with rfl | rfl | rfl
    · refine xr_solve p1 p2 p0 ?_
      rw [xr_comm, ← xr_assoc]; exact ht
    · refine xr_solve p0 p2 p1 ?_
      rw [xr_swap]; exact ht
    · exact xr_solve p0 p1 p2 ht

/-- The place in row Q of what slot s has. -/
def plc (Q s : Nat) : Nat := (s + Q % 3) % 3
theorem plc_lt (Q s : Nat) : plc Q s < 3 := Nat.mod_lt _ (by omega)
theorem Rw3.turned {x : Nat → List Int} {q : Int} (h : Rw3 x q) (Q : Nat) : Rw3 (fun s => x (plc Q s)) q := by
  refine ⟨fun s _ => h.len _ (plc_lt Q s), fun s _ => h.sm _ (plc_lt Q s), fun s _ => h.t4 _ (plc_lt Q s), h.q0, h.q1, fun t ht => ?_⟩
  have e := h.tot t ht
  rcases (by omega : Q % 3 = 0 ∨ Q % 3 = 1 ∨ Q % 3 = 2) with h0 | h0 | h0
  · simp only [plc, h0]; exact e
  · simp only [plc, h0]
    show xr (xr (byt (x 1) (4 + t)) (byt (x 2) (4 + t))) (byt (x 0) (4 + t)) = 0
    rw [xr_comm, ← xr_assoc]; exact e
  · simp only [plc, h0]
    show xr (xr (byt (x 2) (4 + t)) (byt (x 0) (4 + t))) (byt (x 1) (4 + t)) = 0
    rw [xr_assoc, xr_comm]; exact e
/-- A row that is written is one. -/
theorem enS_ok {q : Int} {f : Nat → BlP} {n P k : Nat} (h : encB q f n P = true) (hk : k < P) : EncOk q (blkAt f n k).o (blkAt f n k).i (blkAt f n k).p.zs := by
  rw [encB, Bool.and_eq_true] at h
  exact encO_ok (enO_at hk h.2)
theorem enS_small {q : Int} {f : Nat → BlP} {n : Nat} (hb : ∀ j, j < n → AllB (f j).p.zs) (k : Nat) : AllB (enS q f n k) := by
  unfold enS encL
  split
  · refine (headL_small _ _ _).app (AllB.app ?_ (AllB.zeros _))
    unfold blkAt
    split
    · exact hb k (by assumption)
    · intro x hx; cases hx
  · intro x hx; cases hx
theorem enS_four {q : Int} {f : Nat → BlP} {n P k : Nat} (h : encB q f n P = true) (hk : k < P) : (enS q f n k).length = 64 ∧ (enS q f n k).take 4 = digs 4 q := by
  have ok := enS_ok h hk
  refine ⟨ok.len, ?_⟩
  show (encL _ _ _ _).take 4 = _
  rw [ok.eq]
  exact List.take_left' (digs_len 4 q)
theorem row_three {q : Int} {f : Nat → BlP} {n a : Nat} (h : encB q f n 6 = true) (hb : ∀ j, j < n → AllB (f j).p.zs) (ha : a < 3) : Rw3 (rowE q f n 2 a) q := by
  have e0 := enS_four (k := a * 2 + 0) h (by omega)
  have e1 := enS_four (k := a * 2 + 1) h (by omega)
  have s0 := enS_small (q := q) hb (a * 2 + 0)
  have s1 := enS_small (q := q) hb (a * 2 + 1)
  have ok := enS_ok (k := 0) h (by omega)
  have bq := hasW4 ok.ws
  have hp := par_len (f := fun j => ⟨none, 0, 0, enS q f n (a * 2 + j)⟩) (a := enS q f n (a * 2 + 0)) (b := enS q f n (a * 2 + 1)) rfl rfl e0.1 e1.1 s0 s1 e0.2 e1.2
  have r0 : rowE q f n 2 a 0 = enS q f n (a * 2 + 0) := rfl
  have r1 : rowE q f n 2 a 1 = enS q f n (a * 2 + 1) := rfl
  have r2 : rowE q f n 2 a 2 = parL (fun j => ⟨none, 0, 0, enS q f n (a * 2 + j)⟩) 2 := rfl
  obtain ⟨p0, p1, p2, p3⟩ := hp
  refine ⟨fun s hs => ?_, fun s hs => ?_, fun s hs => ?_, bq.1, bq.2, fun t ht => ?_⟩
  · rcases (by omega : s = 0 ∨ s = 1 ∨ s = 2) with rfl | rfl | rfl
    · exact e0.1
    · exact e1.1
    · exact p0
  · rcases (by omega : s = 0 ∨ s = 1 ∨ s = 2) with rfl | rfl | rfl
    · exact s0
    · exact s1
    · exact p1
  · rcases (by omega : s = 0 ∨ s = 1 ∨ s = 2) with rfl | rfl | rfl
    · exact e0.2
    · exact e1.2
    · exact p2
  · rw [r2, p3 t ht, r0, r1, xr_self]

end Go.Proofs.YtegmeoghonolcaaGreat

/-
  A rack some of whose disks have failed or will at the next call: what the others read.
-/
namespace Go.Proofs.YtegmeoghonolcaaGreat
open Go.RowKit Go.Maps
set_option linter.unusedVariables false

/-- The disks 'bad' have failed, those of D will at the next call; the others read C. -/
structure Vd (R : Rk) (n S : Nat) (bad D : Nat → Bool) (C : Nat → Nat → List Int) : Prop where
  hn : R.n = n
  hS : R.S = S
  off : R.off = false
  cnt : R.cnt = -1
  dk : ∀ i, i < n → (R.d i).bad = bad i ∧ (bad i = false → (R.d i).cnt = if D i then 0 else -1)
  rd : ∀ i k, i < n → k < S → bad i = false → (R.d i).read k = C i k
  len : ∀ i k, i < n → k < S → (C i k).length = 64
abbrev noD : Nat → Bool := fun _ => false
abbrev orD (bad D : Nat → Bool) : Nat → Bool := fun i => bad i || D i
section
variable {R : Rk} {n S : Nat} {bad D : Nat → Bool} {C : Nat → Nat → List Int}
theorem Hd.vd (h : Hd R n S C) : Vd R n S noD noD C :=
  ⟨h.hn, h.hS, h.off, h.cnt, fun i _ => ⟨(h.good i).1, fun _ => (h.good i).2⟩, fun i k hi hk _ => h.rd i k hi hk, h.len⟩
theorem Vd.congr (h : Vd R n S bad D C) {bad' D' : Nat → Bool} (e1 : ∀ i, i < n → bad i = bad' i) (e2 : ∀ i, i < n → bad i = false → D i = D' i) : Vd R n S bad' D' C :=
  ⟨h.hn, h.hS, h.off, h.cnt, fun i hi => ⟨by rw [← e1 i hi]; exact (h.dk i hi).1, fun x => by rw [← e1 i hi] at x; rw [← e2 i hi x]; exact (h.dk i hi).2 x⟩, fun i k hi hk x => h.rd i k hi hk (by rw [e1 i hi]; exact x), h.len⟩
theorem Vd.calledBad (h : Vd R n S bad D C) {i : Nat} (hi : i < n) : (R.d i).called.bad = orD bad D i := by
  obtain ⟨h1, h2⟩ := h.dk i hi
  show ((R.d i).bad || (R.d i).cnt == 0) = (bad i || D i)
  rw [h1]
  cases hb : bad i with
  | true => rfl
  | false =>
    rw [h2 hb]
    cases D i <;> rfl
theorem Vd.call (h : Vd R n S bad D C) : Vd R.call n S (orD bad D) noD C := by
  have e : R.call = { R with cnt := if 0 < R.cnt then R.cnt - 1 else R.cnt, d := fun j => (R.d j).called } := by
    unfold Rk.call
    rw [if_neg (by rw [h.cnt]; omega)]
  rw [e]
  refine ⟨h.hn, h.hS, h.off, ?_, fun i hi => ⟨h.calledBad hi, fun x => ?_⟩, fun i k hi hk x => ?_, h.len⟩
  · show (if 0 < R.cnt then R.cnt - 1 else R.cnt) = -1
    rw [if_neg (by rw [h.cnt]; omega)]; exact h.cnt
  · have hb : bad i = false := by cases hb : bad i <;> simp_all [orD]
    have hD : D i = false := by cases hb : D i <;> simp_all [orD]
    have e2 := (h.dk i hi).2 hb
    rw [hD] at e2
    show (if 0 < (R.d i).cnt then (R.d i).cnt - 1 else (R.d i).cnt) = _
    rw [e2]
    rfl
  · have hb : bad i = false := by cases hb : bad i <;> simp_all [orD]
    exact h.rd i k hi hk hb
theorem Vd.callE (h : Vd R n S bad D C) {i : Nat} (hi : i < n) : R.callE i = if orD bad D i then 13 else 0 := by
  unfold Rk.callE
  rw [if_neg (by rw [h.cnt]; omega), h.calledBad hi]
theorem Vd.hasB (h : Vd R n S bad D C) {i k : Nat} (hi : i < n) (hk : k < S) : hasB R.n R.S i k = true := hasB_yes (by omega) (by rw [h.hn]; omega) (by omega) (by rw [h.hS]; omega)
theorem Vd.setD (h : Vd R n S bad noD C) {i : Nat} {d : Dk} (h1 : d.bad = bad i) (h2 : bad i = false → d.cnt = -1) {C' : Nat → Nat → List Int} (hC : ∀ k, k < S → bad i = false → d.read k = C' i k) (hC2 : ∀ j k, j < n → k < S → j ≠ i → C' j k = C j k) (hl : ∀ i k, i < n → k < S → (C' i k).length = 64) : Vd (R.setD i d) n S bad noD C' := by
  refine ⟨h.hn, h.hS, h.off, h.cnt, fun j hj => ?_, fun j k hj hk hb => ?_, hl⟩
  · show (if j = i then d else R.d j).bad = bad j ∧ (bad j = false → (if j = i then d else R.d j).cnt = -1)
    by_cases e : j = i
    · subst e; rw [if_pos rfl]; exact ⟨h1, h2⟩
    · rw [if_neg e]; exact h.dk j hj
  · show (if j = i then d else R.d j).read k = C' j k
    by_cases e : j = i
    · subst e; rw [if_pos rfl]; exact hC k hk hb
    · rw [if_neg e, hC2 j k hj hk e]; exact h.rd j k hj hk hb
theorem setC_len {C : Nat → Nat → List Int} {n S i k : Nat} {zs : List Int} (h : ∀ i k, i < n → k < S → (C i k).length = 64) (hz : zs.length = 64) : ∀ j t, j < n → t < S → (setC C i k zs j t).length = 64 := fun j t hj ht => by
  unfold setC
  split
  · exact hz
  · exact h j t hj ht
theorem Vd.other (h : Vd R n S bad D C) {C' : Nat → Nat → List Int} (hC : ∀ i k, i < n → k < S → bad i = false → C' i k = C i k) (hl : ∀ i k, i < n → k < S → (C' i k).length = 64) : Vd R n S bad D C' :=
  ⟨h.hn, h.hS, h.off, h.cnt, h.dk, fun i k hi hk hb => by rw [hC i k hi hk hb]; exact h.rd i k hi hk hb, hl⟩
theorem Vd.wr (h : Vd R n S bad D C) {i k : Nat} (hi : i < n) (hk : k < S) {zs : List Int} (hz : zs.length = 64) :
    R.wrE i k zs = (if orD bad D i then 13 else 0) ∧ Vd (R.wr i k zs) n S (orD bad D) noD (setC C i k zs) := by
  have hc := h.call
  have e1 : R.wrE i k zs = if orD bad D i then 13 else 0 := by
    unfold Rk.wrE
    rw [if_neg (by rw [h.off]; simp), h.hasB hi hk, decide_eq_true hz, Int.toNat_natCast, h.callE hi]
    rfl
  refine ⟨e1, ?_⟩
  unfold Rk.wr
  rw [h.off, h.hasB hi hk, decide_eq_true hz, Int.toNat_natCast, Int.toNat_natCast, h.callE hi]
  rw [if_pos (show (!false && (true && true)) = true from rfl)]
  cases hb : orD bad D i with
  | true =>
    rw [if_neg (show ¬ (if true = true then (13 : Int) else 0) = 0 by decide)]
    refine hc.other (fun j t hj ht hbj => ?_) (setC_len h.len hz)
    unfold setC
    rw [if_neg (fun x => by rw [x.1, hb] at hbj; cases hbj)]
  | false =>
    rw [if_pos (show (if false = true then (13 : Int) else 0) = 0 by decide)]
    have hd := hc.dk i hi
    refine hc.setD (d := (R.call.d i).put k zs) (C' := setC C i k zs) hd.1 (fun x => hd.2 x) (fun t ht hbt => ?_) (fun j t hj ht hne => ?_) (setC_len h.len hz)
    · show ((if t = k then some zs else (R.call.d i).cache t).getD _) = setC C i k zs i t
      unfold setC
      by_cases e : t = k
      · rw [if_pos e, if_pos ⟨rfl, e⟩]; rfl
      · rw [if_neg e, if_neg (fun x => e x.2)]; exact hc.rd i t hi ht hbt
    · unfold setC
      rw [if_neg (fun x => hne x.1)]
theorem Vd.fl (h : Vd R n S bad D C) {i : Nat} (hi : i < n) : R.flE i = (if orD bad D i then 13 else 0) ∧ Vd (R.fl i) n S (orD bad D) noD C := by
  have hc := h.call
  have h0 : 0 ≤ (i : Int) ∧ (i : Int) < R.n := ⟨by omega, by rw [h.hn]; omega⟩
  refine ⟨by unfold Rk.flE; rw [if_neg (by rw [h.off]; simp), if_pos h0, Int.toNat_natCast, h.callE hi], ?_⟩
  unfold Rk.fl
  rw [if_pos ⟨h.off, h0⟩, Int.toNat_natCast, h.callE hi, h.hS]
  cases hb : orD bad D i with
  | true => rw [if_neg (show ¬ (if true = true then (13 : Int) else 0) = 0 by decide)]; exact hc
  | false =>
    rw [if_pos (show (if false = true then (13 : Int) else 0) = 0 by decide)]
    have hd := hc.dk i hi
    refine hc.setD (d := (R.call.d i).flush S) (C' := C) hd.1 (fun x => hd.2 x) (fun t ht hbt => ?_) (fun j t hj ht hne => rfl) h.len
    show sec (joinS S (R.call.d i).read) t = _
    rw [sec_join (fun s hs => by rw [hc.rd i s hi hs hbt]; exact h.len i s hi hs) ht]
    exact hc.rd i t hi ht hbt
theorem Vd.rdd (h : Vd R n S bad D C) {i k : Nat} (hi : i < n) (hk : k < S) : R.rdE i k = (if bad i then 13 else 0) ∧ (bad i = false → R.rdV i k = C i k) := by
  have e : R.rdE i k = if bad i then 13 else 0 := by
    unfold Rk.rdE
    rw [if_neg (by rw [h.off]; simp), if_pos (h.hasB hi hk), Int.toNat_natCast, (h.dk i hi).1]
  refine ⟨e, fun hb => ?_⟩
  unfold Rk.rdV
  rw [e, hb, if_pos (show (if false = true then (13 : Int) else 0) = 0 by decide), Int.toNat_natCast, Int.toNat_natCast]
  exact h.rd i k hi hk hb
theorem Vd.failed (h : Vd R n S bad D C) {i : Nat} (hi : i < n) : R.failed (i : Int) = bad i := by
  unfold Rk.failed
  rw [Int.toNat_natCast, (h.dk i hi).1, decide_eq_true ⟨by omega, by rw [h.hn]; omega⟩, Bool.true_and]
theorem Vd.doom (h : Vd R n S bad D C) {i : Nat} (hi : i < n) : R.dkE i = 0 ∧ Vd (R.doom i 0) n S bad (fun j => D j || j == i) C := by
  have h0 : 0 ≤ (i : Int) ∧ (i : Int) < R.n := ⟨by omega, by rw [h.hn]; omega⟩
  refine ⟨by unfold Rk.dkE; rw [if_pos h0], ?_⟩
  unfold Rk.doom
  rw [if_pos h0, Int.toNat_natCast]
  refine ⟨h.hn, h.hS, h.off, h.cnt, fun j hj => ?_, fun j k hj hk hb => ?_, h.len⟩
  · show (if j = i then { R.d i with cnt := 0 } else R.d j).bad = bad j ∧ (bad j = false → (if j = i then { R.d i with cnt := 0 } else R.d j).cnt = if (D j || j == i) then 0 else -1)
    by_cases e : j = i
    · subst e
      rw [if_pos rfl]
      exact ⟨(h.dk j hj).1, fun _ => by simp⟩
    · rw [if_neg e]
      refine ⟨(h.dk j hj).1, fun x => ?_⟩
      rw [(h.dk j hj).2 x]
      simp [e]
  · show (if j = i then { R.d i with cnt := 0 } else R.d j).read k = C j k
    by_cases e : j = i
    · subst e; rw [if_pos rfl]; exact h.rd j k hj hk hb
    · rw [if_neg e]; exact h.rd j k hj hk hb
/-- The bank's flush. -/
theorem Vd.flush (h : Vd R n S bad D C) {B : Bn} {m : Nat} (hd : B.d = (m : Int)) (hnm : n = m + 1) : ∀ i, i ≤ B.num → (flG B R i).1 = false ∧ (flG B R i).2.1 = 0 ∧ (i = 0 ∧ (flG B R i).2.2 = R ∨ 0 < i ∧ Vd (flG B R i).2.2 n S (orD bad D) noD C) := by
  intro i
  induction i with
  | zero => intro _; exact ⟨rfl, rfl, .inl ⟨rfl, rfl⟩⟩
  | succ i ih =>
    intro hi
    obtain ⟨h1, h2, h3⟩ := ih (by omega)
    have hlt : B.dk i < n := by rw [hnm]; exact Bn.dk_lt hd (by omega)
    have hstep : (flG B R i).2.2.flE (B.disk (i : Int)) ≠ 12 ∧ Vd ((flG B R i).2.2.fl (B.disk (i : Int))) n S (orD bad D) noD C := by
      rw [Bn.dk_eq hd]
      rcases h3 with ⟨_, e⟩ | ⟨_, hv⟩
      · rw [e]
        obtain ⟨a, b⟩ := h.fl hlt
        exact ⟨by rw [a]; split <;> omega, b⟩
      · obtain ⟨a, b⟩ := hv.fl hlt
        exact ⟨by rw [a]; split <;> omega, b.congr (fun j _ => by simp [orD]) (fun _ _ _ => rfl)⟩
    rw [flG_go h1 hstep.1]
    exact ⟨rfl, h2, .inr ⟨by omega, hstep.2⟩⟩
end

end Go.Proofs.YtegmeoghonolcaaGreat

/-
  What the stripe's calls answer on a small rack, some of whose slots can't be read.
-/
namespace Go.Proofs.YtegmeoghonolcaaGreat
open Go.RowKit Go.Maps
set_option linter.unusedVariables false

/-- The slot of place c of row Q. -/
def slt (Q c : Nat) : Nat := (c + (3 - Q % 3)) % 3
theorem slt_lt (Q c : Nat) : slt Q c < 3 := Nat.mod_lt _ (by omega)
theorem slt_plc {Q s : Nat} (hs : s < 3) : slt Q (plc Q s) = s := by unfold slt plc; omega
theorem plc_slt {Q c : Nat} (hc : c < 3) : plc Q (slt Q c) = c := by unfold slt plc; omega
theorem rowD_slt (Q c : Nat) : rowD 3 (Q : Int) c = (slt Q c : Int) := by unfold rowD BD PD slt; omega
theorem BD_slt (Q c : Nat) : BD 3 (Q : Int) (c : Int) = (slt Q c : Int) := by unfold BD PD slt; omega

/-- The slots of 'un' can't be read, those of 'bd' are told as bad; the readable ones read X. -/
structure Vw (B : Bn) (R : Rk) (un bd : Nat → Bool) (X : Nat → Nat → List Int) : Prop where
  d : B.d = 3
  r : B.r = 3
  s : B.s = 12
  off : R.off = false
  no : ∀ i k : Nat, i < 3 → k < 41 → un i = true → brE B R i k ≠ 0
  yes : ∀ i k : Nat, i < 3 → k < 41 → un i = false → brE B R i k = 0 ∧ brV B R i k = X i k
  bp : ∀ i : Nat, i < 3 → badP B R (i : Int) = bd i
/-- Segment g is one of a writing q. -/
def Whl (X : Nat → Nat → List Int) (g : Nat) (q : Int) : Prop := ∀ a, a < 3 → Rw3 (fun s => X s (5 + (3 * g + a))) q
section
variable {B : Bn} {R : Rk} {un bd : Nat → Bool} {X : Nat → Nat → List Int} {g a : Nat} {q : Int}
theorem Vw.seg (h : Vw B R un bd X) (hg : g < 12) : segO B g = true := by
  classical
  unfold segO
  refine decide_eq_true ?_
  rw [h.d, h.r, h.s]
  exact ⟨rt_small, by omega, by omega⟩
theorem Vw.chk (h : Vw B R un bd X) {ok : Bool} (ho : ok = true) : chkE R ok = 0 := by
  unfold chkE
  rw [ho, if_pos rfl, if_neg (by rw [h.off]; simp)]
theorem Vw.at (h : Vw B R un bd X) (g a : Nat) : (5 : Int) + ((g : Int) * B.r + (a : Int)) = ((5 + (3 * g + a) : Nat) : Int) := by rw [h.r]; omega
theorem Vw.at2 (h : Vw B R un bd X) (g a : Nat) : ((g : Int) * B.r + (a : Int)) = ((3 * g + a : Nat) : Int) := by rw [h.r]; omega
theorem Vw.ld (h : Vw B R un bd X) {i k : Nat} (hi : i < 3) (hk : k < 41) : ldO B R i k = !un i := by
  unfold ldO
  cases hu : un i with
  | true => exact decide_eq_false (h.no i k hi hk hu)
  | false => exact decide_eq_true (h.yes i k hi hk hu).1
theorem Vw.rd (h : Vw B R un bd X) {i k : Nat} (hi : i < 3) (hk : k < 41) (q : Int) : rdO B R k q i = (!un i && decide (decN (X i k) 0 4 = q)) := by
  unfold rdO
  rw [h.ld hi hk]
  cases hu : un i with
  | true => rfl
  | false => rw [(h.yes i k hi hk hu).2]
/-- The slots other than x. -/
theorem Vw.all (h : Vw B R un bd X) {k x : Nat} (hk : k < 41) (hx : x < 3) (q : Int) : allO B R k q x 3 = true ↔ ∀ s, s < 3 → s ≠ x → un s = false ∧ decN (X s k) 0 4 = q := by
  have e : allO B R k q x 3 = (((true && (decide (0 = x) || rdO B R k q (0 : Nat))) && (decide (1 = x) || rdO B R k q (1 : Nat))) && (decide (2 = x) || rdO B R k q (2 : Nat))) := rfl
  rw [e, h.rd (i := 0) (by omega) hk, h.rd (i := 1) (by omega) hk, h.rd (i := 2) (by omega) hk]
  simp only [Bool.and_eq_true, Bool.or_eq_true, decide_eq_true_eq, Bool.not_eq_true', true_and]
  constructor
  · rintro ⟨⟨h0, h1⟩, h2⟩ s hs hne
    rcases (by omega : s = 0 ∨ s = 1 ∨ s = 2) with rfl | rfl | rfl
    · exact h0.resolve_left hne
    · exact h1.resolve_left hne
    · exact h2.resolve_left hne
  · intro hh
    refine ⟨⟨?_, ?_⟩, ?_⟩
    · by_cases e : 0 = x
      · exact .inl e
      · exact .inr (hh 0 (by omega) e)
    · by_cases e : 1 = x
      · exact .inl e
      · exact .inr (hh 1 (by omega) e)
    · by_cases e : 2 = x
      · exact .inl e
      · exact .inr (hh 2 (by omega) e)
theorem skp_ne {x j : Nat} (hx : x < 3) (hj : j < 2) : skp x j < 3 ∧ skp x j ≠ x := by unfold skp; split <;> omega
/-- A slot is told by the others. -/
theorem Vw.res (h : Vw B R un bd X) {k x : Nat} (hk : k < 41) (hx : x < 3) {Y : Nat → List Int} (hY : Rw3 Y q) (hu : ∀ s, s < 3 → s ≠ x → un s = false ∧ X s k = Y s) : resO B R k q x 3 = true ∧ resL B R k q x 3 = Y x := by
  have h1 : allO B R k q x 3 = true := (h.all hk hx q).2 fun s hs hne => ⟨(hu s hs hne).1, by rw [(hu s hs hne).2]; exact hY.seq hs⟩
  have h2 := hY.restored hx (f := oth B R k x) fun j hj => by
    obtain ⟨b1, b2⟩ := skp_ne hx hj
    obtain ⟨c1, c2⟩ := hu _ b1 b2
    show brV B R (skp x j : Nat) k = Y (skp x j)
    rw [(h.yes _ k b1 hk c1).2, c2]
  have h3 : resO B R k q x 3 = true := by
    show (allO B R k q x 3 && oneSeq (oth B R k x) (3 - 1)) = true
    rw [h1]; exact h2.1
  refine ⟨h3, ?_⟩
  show (if _ then parL (oth B R k x) (3 - 1) else []) = _
  rw [h3, if_pos rfl]
  exact h2.2
/-- A block is read. -/
theorem bkO_small (h : Vw B R un bd X) (hg : g < 12) {k : Nat} (hk : k < 6) : bkO B g k = true := by
  classical
  unfold bkO
  refine decide_eq_true ?_
  rw [h.d, h.r, h.s]
  exact ⟨⟨rt_small, by omega, by omega⟩, by omega, by unfold PL; omega⟩
theorem spot_small (h : Vw B R un bd X) (hg : g < 12) {k : Nat} (hk : k < 6) : spD B g k = (slt (3 * g + k / 2) (k % 2) : Int) ∧ spS B g k = ((5 + (3 * g + k / 2) : Nat) : Int) := by
  unfold spD spS
  rw [bkO_small h hg hk, if_pos rfl, if_pos rfl, h.d, h.r]
  have e1 : (g : Int) * 3 + (k : Int) / (3 - 1) = ((3 * g + k / 2 : Nat) : Int) := by omega
  have e2 : (k : Int) % (3 - 1) = ((k % 2 : Nat) : Int) := by omega
  rw [e1, e2, BD_slt]
  exact ⟨rfl, by omega⟩
theorem Vw.read (h : Vw B R un bd X) (hg : g < 12) (hw : Whl X g q) {k : Nat} (hk : k < 6) (hu : (∀ s, s < 3 → s ≠ slt (3 * g + k / 2) (k % 2) → un s = false) ∨ un (slt (3 * g + k / 2) (k % 2)) = false) :
    rbE B R 3 g k q = 0 ∧ rbL B R 3 g k q = X (slt (3 * g + k / 2) (k % 2)) (5 + (3 * g + k / 2)) := by
  obtain ⟨e1, e2⟩ := spot_small h hg hk
  have hb := bkO_small h hg hk
  have hc := h.chk hb
  have hx := slt_lt (3 * g + k / 2) (k % 2)
  have hz : 5 + (3 * g + k / 2) < 41 := by omega
  have hrow := hw (k / 2) (by omega)
  unfold rbE rbL
  rw [hc, if_pos rfl, if_pos rfl, e1, e2, h.rd hx hz, Int.toNat_natCast]
  cases hv : un (slt (3 * g + k / 2) (k % 2)) with
  | false =>
    rw [show decide (decN (X (slt (3 * g + k / 2) (k % 2)) (5 + (3 * g + k / 2))) 0 4 = q) = true from decide_eq_true (hrow.seq hx)]
    exact ⟨rfl, (h.yes _ _ hx hz hv).2⟩
  | true =>
    have hu' := hu.resolve_right (by rw [hv]; simp)
    obtain ⟨r1, r2⟩ := h.res hz hx hrow fun s hs hne => ⟨hu' s hs hne, rfl⟩
    rw [r1, r2]
    exact ⟨rfl, rfl⟩
/-- How many slots are told as bad. -/
def cntB (bd : Nat → Bool) : Nat := (if bd 0 then 1 else 0) + (if bd 1 then 1 else 0) + (if bd 2 then 1 else 0)
theorem Vw.bad (h : Vw B R un bd X) : (∀ i : Nat, i < 3 → ((i : Int) ∈ badL B R 3 ↔ bd i = true)) ∧ (badL B R 3).length = cntB bd := by
  have e : badL B R 3 = (let l1 := if bd 0 then [] ++ [((0 : Nat) : Int)] else []; let l2 := if bd 1 then l1 ++ [((1 : Nat) : Int)] else l1; if bd 2 then l2 ++ [((2 : Nat) : Int)] else l2) := by
    rw [badL, badL, badL, badL, h.bp 0 (by omega), h.bp 1 (by omega), h.bp 2 (by omega)]
  rw [e]
  unfold cntB
  constructor
  · intro i hi
    rcases (by omega : i = 0 ∨ i = 1 ∨ i = 2) with rfl | rfl | rfl <;> cases bd 0 <;> cases bd 1 <;> cases bd 2 <;> simp
  · cases bd 0 <;> cases bd 1 <;> cases bd 2 <;> rfl
theorem Vw.two (h : Vw B R un bd X) : twoB B R 3 = decide (1 < cntB bd) := by
  unfold twoB
  rw [h.bad.2]
end

end Go.Proofs.YtegmeoghonolcaaGreat

/-
  .. is a segment whole, sound, does a slot miss some of it; what a writing leaves.
-/
namespace Go.Proofs.YtegmeoghonolcaaGreat
open Go.RowKit Go.Maps
set_option linter.unusedVariables false

section
variable {B : Bn} {R : Rk} {un bd : Nat → Bool} {X : Nat → Nat → List Int} {g a : Nat} {q : Int}
theorem Vw.congr (h : Vw B R un bd X) {un' bd' : Nat → Bool} {X' : Nat → Nat → List Int} (e1 : ∀ i, i < 3 → un i = un' i) (e2 : ∀ i, i < 3 → bd i = bd' i) (e3 : ∀ i k, i < 3 → k < 41 → un i = false → X i k = X' i k) : Vw B R un' bd' X' :=
  ⟨h.d, h.r, h.s, h.off, fun i k hi hk hu => h.no i k hi hk (by rw [e1 i hi]; exact hu), fun i k hi hk hu => by
    have hu2 : un i = false := by rw [e1 i hi]; exact hu
    rw [← e3 i k hi hk hu2]
    exact h.yes i k hi hk hu2, fun i hi => by rw [← e2 i hi]; exact h.bp i hi⟩
/-- .. of a rack. -/
theorem Vd.vw {bad D : Nat → Bool} {C : Nat → Nat → List Int} (h : Vd R 4 41 bad D C) (hd : B.d = 3) (hr : B.r = 3) (hs : B.s = 12) :
    Vw B R (fun i => bad (B.dk i)) (fun i => decide (B.st = 1 ∧ (i : Int) = B.sl) || bad (B.dk i)) (fun i k => C (B.dk i) k) := by
  have hd' : B.d = ((3 : Nat) : Int) := hd
  have hlt : ∀ i, i < 3 → B.dk i < 4 := fun i hi => by
    have := Bn.dk_lt hd' (i := i) (by unfold Bn.num; rw [hd]; split <;> (show i < _; simp; omega))
    omega
  refine ⟨hd, hr, hs, h.off, fun i k hi hk hu => ?_, fun i k hi hk hu => ?_, fun i hi => ?_⟩
  · rw [(br_at hd' hi R k).2, (h.rdd (hlt i hi) hk).1]
    have hu' : bad (B.dk i) = true := hu
    rw [hu']; decide
  · obtain ⟨e1, e2⟩ := br_at hd' hi R (k : Int)
    obtain ⟨f1, f2⟩ := h.rdd (hlt i hi) hk
    have hu' : bad (B.dk i) = false := hu
    rw [e1, e2, f1, f2 hu', hu']
    exact ⟨by decide, rfl⟩
  · unfold badP
    rw [Bn.dk_eq hd', h.failed (hlt i hi)]
theorem cnt_two {bd : Nat → Bool} {x y : Nat} (hx : x < 3) (hy : y < 3) (hne : x ≠ y) (h1 : bd x = true) (h2 : bd y = true) : 1 < cntB bd := by
  unfold cntB
  rcases (by omega : x = 0 ∨ x = 1 ∨ x = 2) with rfl | rfl | rfl <;> rcases (by omega : y = 0 ∨ y = 1 ∨ y = 2) with rfl | rfl | rfl <;> first | exact absurd rfl hne | (rw [if_pos h1, if_pos h2]; split <;> omega)
/-- Whole. -/
theorem Vw.whRow (h : Vw B R un bd X) (hg : g < 12) (ha : a < 3) (hw : Whl X g q) (hq : q ≠ 0) (hub : ∀ i, i < 3 → bd i = false → un i = false) (hc : cntB bd ≤ 1) {u : Int} (hu : u = 0 ∨ u = q) :
    whC B R (badL B R 3) (rowD 3 ((g : Int) * B.r + (a : Int))) (5 + ((g : Int) * B.r + (a : Int))) u 3 = some q := by
  rw [h.at, h.at2]
  have hS : ∀ c u, c < 3 → (u = 0 ∨ u = q) → whS B R (badL B R 3) ((5 + (3 * g + a) : Nat) : Int) (rowD 3 ((3 * g + a : Nat) : Int) c) u = some (if bd (slt (3 * g + a) c) then u else q) := fun c u hc hu => by
    have hlt := slt_lt (3 * g + a) c
    rw [rowD_slt]
    unfold whS
    cases hb : bd (slt (3 * g + a) c) with
    | true => rw [if_pos ((h.bad.1 _ hlt).2 hb), if_pos rfl]
    | false =>
      have hun := hub _ hlt hb
      have e := (hw a ha).seq hlt
      have hno : ¬ (q = 0 ∨ (u ≠ 0 ∧ q ≠ u)) := by
        rintro (x | ⟨x, y⟩)
        · exact hq x
        · rcases hu with hu | hu
          · exact x hu
          · exact y hu.symm
      rw [if_neg (fun x => by rw [(h.bad.1 _ hlt).1 x] at hb; cases hb), h.ld hlt (by omega), hun, if_neg (by simp), (h.yes _ _ hlt (by omega) hun).2, e, if_neg hno, if_neg (by simp)]
  have e3 : whC B R (badL B R 3) (rowD 3 ((3 * g + a : Nat) : Int)) ((5 + (3 * g + a) : Nat) : Int) u 3 = ((((some u).bind (whS B R (badL B R 3) ((5 + (3 * g + a) : Nat) : Int) (rowD 3 ((3 * g + a : Nat) : Int) 0))).bind (whS B R (badL B R 3) ((5 + (3 * g + a) : Nat) : Int) (rowD 3 ((3 * g + a : Nat) : Int) 1))).bind (whS B R (badL B R 3) ((5 + (3 * g + a) : Nat) : Int) (rowD 3 ((3 * g + a : Nat) : Int) 2))) := rfl
  rw [e3, Option.bind_some, hS 0 u (by omega) hu, Option.bind_some]
  have hu1 : (if bd (slt (3 * g + a) 0) = true then u else q) = 0 ∨ (if bd (slt (3 * g + a) 0) = true then u else q) = q := by
    split
    · exact hu
    · exact .inr rfl
  rw [hS 1 _ (by omega) hu1, Option.bind_some]
  have hu2 : (if bd (slt (3 * g + a) 1) = true then (if bd (slt (3 * g + a) 0) = true then u else q) else q) = 0 ∨ (if bd (slt (3 * g + a) 1) = true then (if bd (slt (3 * g + a) 0) = true then u else q) else q) = q := by
    split
    · exact hu1
    · exact .inr rfl
  rw [hS 2 _ (by omega) hu2]
  congr 1
  have hthree : ¬ (bd (slt (3 * g + a) 0) = true ∧ bd (slt (3 * g + a) 1) = true) := by
    rintro ⟨x0, x1⟩
    have hne : slt (3 * g + a) 0 ≠ slt (3 * g + a) 1 := by unfold slt; omega
    have l0 := slt_lt (3 * g + a) 0
    have l1 := slt_lt (3 * g + a) 1
    have := cnt_two l0 l1 hne x0 x1
    omega
  by_cases y2 : bd (slt (3 * g + a) 2) = true
  · rw [if_pos y2]
    by_cases y1 : bd (slt (3 * g + a) 1) = true
    · rw [if_pos y1, if_neg (fun x => hthree ⟨x, y1⟩)]
    · rw [if_neg y1]
  · rw [if_neg y2]
theorem Vw.whole (h : Vw B R un bd X) (hg : g < 12) (hw : Whl X g q) (hq : q ≠ 0) (hub : ∀ i, i < 3 → bd i = false → un i = false) (hc : cntB bd ≤ 1) : whR B R 3 3 g = some q := by
  unfold whR
  rw [h.chk (h.seg hg), if_pos rfl, h.two, if_neg (by simp; omega)]
  have e : whG B R 3 g 3 = ((((some 0).bind fun u => whC B R (badL B R 3) (rowD 3 ((g : Int) * B.r + ((0 : Nat) : Int))) (5 + ((g : Int) * B.r + ((0 : Nat) : Int))) u 3).bind fun u => whC B R (badL B R 3) (rowD 3 ((g : Int) * B.r + ((1 : Nat) : Int))) (5 + ((g : Int) * B.r + ((1 : Nat) : Int))) u 3).bind fun u => whC B R (badL B R 3) (rowD 3 ((g : Int) * B.r + ((2 : Nat) : Int))) (5 + ((g : Int) * B.r + ((2 : Nat) : Int))) u 3) := rfl
  rw [e, Option.bind_some, h.whRow hg (by omega) hw hq hub hc (.inl rfl), Option.bind_some, h.whRow hg (by omega) hw hq hub hc (.inr rfl), Option.bind_some, h.whRow hg (by omega) hw hq hub hc (.inr rfl)]
end

end Go.Proofs.YtegmeoghonolcaaGreat

/-
  What a writing leaves on a small rack; a slot is filled again.
-/
namespace Go.Proofs.YtegmeoghonolcaaGreat
open Go.RowKit Go.Maps
set_option linter.unusedVariables false

/-- A bank of the small geometry. -/
structure Sml (B : Bn) : Prop where
  d : B.d = 3
  r : B.r = 3
  s : B.s = 12
theorem Bn.dk0 {B : Bn} (h : B.st = 0) (i : Nat) : B.dk i = i := by
  unfold Bn.dk Bn.disk
  rw [if_neg (fun x => x.1 h), Int.toNat_natCast]
section
variable {B : Bn} {R : Rk} {bad D : Nat → Bool} {C : Nat → Nat → List Int}
theorem Vd.bw (h : Vd R 4 41 bad noD C) (hB : Sml B) {i k : Nat} (hi : i < 3) (hdk : B.dk i < 4) (hk : k < 41) {zs : List Int} (hz : zs.length = 64) :
    bwE B R i k zs = (if bad (B.dk i) then 13 else 0) ∧ Vd (bw B R i k zs) 4 41 bad noD (setC C (B.dk i) k zs) := by
  obtain ⟨e1, e2⟩ := bw_at (m := 3) hB.d hi R k zs
  obtain ⟨f1, f2⟩ := h.wr hdk hk hz
  rw [e1, e2, f1]
  refine ⟨by simp [orD], f2.congr (fun j _ => by simp [orD]) (fun _ _ _ => rfl)⟩
/-- Rows a' < m of segment g are those of a writing. -/
def wrS (C : Nat → Nat → List Int) (g : Nat) (q : Int) (fb : Nat → BlP) (nb m : Nat) : Nat → Nat → List Int := fun i k => if i < 3 ∧ 5 + 3 * g ≤ k ∧ k < 5 + 3 * g + m then rowE q fb nb 2 (k - 5 - 3 * g) (plc (k - 5) i) else C i k
theorem wrS_len {C : Nat → Nat → List Int} {g m : Nat} {q : Int} {fb : Nat → BlP} {nb : Nat} (h : ∀ i k, i < 4 → k < 41 → (C i k).length = 64) (hm : m ≤ 3) (hr : ∀ a, a < 3 → Rw3 (rowE q fb nb 2 a) q) : ∀ i k, i < 4 → k < 41 → (wrS C g q fb nb m i k).length = 64 := fun i k hi hk => by
  unfold wrS
  split
  · exact (hr _ (by omega)).len _ (plc_lt _ _)
  · exact h i k hi hk
theorem Vd.wrRow (h : Vd R 4 41 bad noD C) (hB : Sml B) (hst : B.st = 0) {Q : Nat} (hQ : 5 + Q < 41) {F : Nat → List Int} (hF : ∀ c, c < 3 → (F c).length = 64) :
    (wrC B (rowD 3 (Q : Int)) ((5 + Q : Nat) : Int) F R 3).1 = false ∧ Vd (wrC B (rowD 3 (Q : Int)) ((5 + Q : Nat) : Int) F R 3).2 4 41 bad noD (fun i k => if i < 3 ∧ k = 5 + Q then F (plc Q i) else C i k) := by
  have step : ∀ c, c ≤ 3 → (wrC B (rowD 3 (Q : Int)) ((5 + Q : Nat) : Int) F R c).1 = false ∧ Vd (wrC B (rowD 3 (Q : Int)) ((5 + Q : Nat) : Int) F R c).2 4 41 bad noD (fun i k => if i < 3 ∧ plc Q i < c ∧ k = 5 + Q then F (plc Q i) else C i k) := by
    intro c
    induction c with
    | zero =>
      intro _
      refine ⟨rfl, h.other (fun i k hi hk hb => ?_) (fun i k hi hk => ?_)⟩
      · rw [if_neg (by omega)]
      · rw [if_neg (by omega)]; exact h.len i k hi hk
    | succ c ih =>
      intro hc
      obtain ⟨h1, h2⟩ := ih (by omega)
      have hlt := slt_lt Q c
      have hb := h2.bw hB (i := slt Q c) (k := 5 + Q) hlt (by rw [Bn.dk0 hst]; omega) hQ (hF c (by omega))
      rw [wrC_go h1, rowD_slt, hb.1]
      refine ⟨decide_eq_false (by split <;> omega), hb.2.other (fun i k hi hk hbi => ?_) (fun i k hi hk => ?_)⟩
      · unfold setC
        rw [Bn.dk0 hst]
        show (if i < 3 ∧ plc Q i < c + 1 ∧ k = 5 + Q then F (plc Q i) else C i k) = (if i = slt Q c ∧ k = 5 + Q then F c else if i < 3 ∧ plc Q i < c ∧ k = 5 + Q then F (plc Q i) else C i k)
        by_cases e : i = slt Q c ∧ k = 5 + Q
        · obtain ⟨rfl, rfl⟩ := e
          have hp := plc_slt (Q := Q) (c := c) (by omega)
          rw [if_pos ⟨hlt, by omega, rfl⟩, if_pos ⟨rfl, rfl⟩, hp]
        · rw [if_neg e]
          by_cases e2 : i < 3 ∧ plc Q i < c ∧ k = 5 + Q
          · rw [if_pos e2, if_pos ⟨e2.1, by omega, e2.2.2⟩]
          · rw [if_neg e2, if_neg]
            rintro ⟨x1, x2, x3⟩
            rcases (by omega : plc Q i < c ∨ plc Q i = c) with x | x
            · exact e2 ⟨x1, x, x3⟩
            · exact e ⟨by rw [← x, slt_plc x1], x3⟩
      · split
        · exact hF _ (plc_lt _ _)
        · exact h.len i k hi hk
  obtain ⟨h1, h2⟩ := step 3 (Nat.le_refl _)
  refine ⟨h1, h2.other (fun i k hi hk hb => ?_) (fun i k hi hk => ?_)⟩
  · have := plc_lt Q i
    by_cases e : i < 3 ∧ k = 5 + Q
    · rw [if_pos e, if_pos ⟨e.1, this, e.2⟩]
    · rw [if_neg e, if_neg (fun x => e ⟨x.1, x.2.2⟩)]
  · split
    · exact hF _ (plc_lt _ _)
    · exact h.len i k hi hk
theorem Vd.wrRows (h : Vd R 4 41 bad noD C) (hB : Sml B) (hst : B.st = 0) {g : Nat} (hg : g < 12) {q : Int} {fb : Nat → BlP} {nb : Nat} (hr : ∀ a, a < 3 → Rw3 (rowE q fb nb 2 a) q) :
    ∀ m, m ≤ 3 → (wrG B 3 g q fb nb R m).1 = false ∧ Vd (wrG B 3 g q fb nb R m).2 4 41 bad noD (wrS C g q fb nb m) := by
  intro m
  induction m with
  | zero =>
    intro _
    refine ⟨rfl, h.other (fun i k hi hk hb => ?_) (wrS_len h.len (by omega) hr)⟩
    unfold wrS
    rw [if_neg (by omega)]
  | succ m ih =>
    intro hm
    obtain ⟨h1, h2⟩ := ih (by omega)
    have e1 : (5 : Int) + ((g : Int) * B.r + (m : Int)) = ((5 + (3 * g + m) : Nat) : Int) := by rw [hB.r]; omega
    have e2 : ((g : Int) * B.r + (m : Int)) = ((3 * g + m : Nat) : Int) := by rw [hB.r]; omega
    have hk := h2.wrRow hB hst (Q := 3 * g + m) (by omega) (F := rowE q fb nb 2 m) (fun c hc => (hr m (by omega)).len c hc)
    rw [wrG_go h1, e1, e2]
    refine ⟨hk.1, hk.2.other (fun i k hi hk hb => ?_) (wrS_len h.len hm hr)⟩
    show (if i < 3 ∧ 5 + 3 * g ≤ k ∧ k < 5 + 3 * g + (m + 1) then rowE q fb nb 2 (k - 5 - 3 * g) (plc (k - 5) i) else C i k) = (if i < 3 ∧ k = 5 + (3 * g + m) then rowE q fb nb 2 m (plc (3 * g + m) i) else if i < 3 ∧ 5 + 3 * g ≤ k ∧ k < 5 + 3 * g + m then rowE q fb nb 2 (k - 5 - 3 * g) (plc (k - 5) i) else C i k)
    by_cases e : i < 3 ∧ k = 5 + (3 * g + m)
    · obtain ⟨x, rfl⟩ := e
      rw [if_pos ⟨x, by omega, by omega⟩, if_pos ⟨x, rfl⟩, show 5 + (3 * g + m) - 5 - 3 * g = m by omega, show 5 + (3 * g + m) - 5 = 3 * g + m by omega]
    · rw [if_neg e]
      by_cases e3 : i < 3 ∧ 5 + 3 * g ≤ k ∧ k < 5 + 3 * g + m
      · rw [if_pos e3, if_pos ⟨e3.1, e3.2.1, by omega⟩]
      · rw [if_neg e3, if_neg]
        rintro ⟨x1, x2, x3⟩
        rcases (by omega : k < 5 + 3 * g + m ∨ k = 5 + (3 * g + m)) with y | y
        · exact e3 ⟨x1, x2, y⟩
        · exact e ⟨x1, y⟩
theorem segO_small (hB : Sml B) {g : Nat} (hg : g < 12) : segO B g = true := by
  classical
  unfold segO
  refine decide_eq_true ?_
  rw [hB.d, hB.r, hB.s]
  exact ⟨rt_small, by omega, by omega⟩
/-- Not more than one disk has failed: a segment is written. -/
theorem Vd.write (h : Vd R 4 41 bad noD C) (hB : Sml B) (hst : B.st = 0) (hbad : cntB bad ≤ 1) {g : Nat} (hg : g < 12) {q : Int} {fb : Nat → BlP} {nb : Nat} (q0 : 1 ≤ q) (q1 : q < 4294967296) (he : encB q fb nb 6 = true) (hb : ∀ j, j < nb → AllB (fb j).p.zs) :
    wrE B R 3 3 g q fb nb = 0 ∧ Vd (wrR B R 3 3 g q fb nb) 4 41 bad noD (wrS C g q fb nb 3) := by
  have hw := h.wrRows hB hst hg (q := q) (fb := fb) (nb := nb) (fun a ha => row_three he hb ha) 3 (by omega)
  have hvw : ∀ {R' : Rk} {C' : Nat → Nat → List Int}, Vd R' 4 41 bad noD C' → Vw B R' bad bad C' := fun h' => (h'.vw hB.d hB.r hB.s).congr (fun i _ => by rw [Bn.dk0 hst]) (fun i _ => by rw [Bn.dk0 hst, hst]; simp) (fun i k _ _ _ => by rw [Bn.dk0 hst])
  have t0 : twoB B R 3 = false := by rw [(hvw h).two]; exact decide_eq_false (by omega)
  have t1 : twoB B (wrG B 3 g q fb nb R 3).2 3 = false := by rw [(hvw hw.2).two]; exact decide_eq_false (by omega)
  have hrg : rgO B g q = true := by unfold rgO; rw [segO_small hB hg, decide_eq_true ⟨q0, by omega⟩]; rfl
  have he' : encB q fb nb (3 * (3 - 1)) = true := he
  unfold wrE wrR
  rw [hrg, he', t0, hw.1, t1]
  exact ⟨rfl, hw.2⟩
/-- What is written is whole, what another segment has stays. -/
theorem wrS_whl {g : Nat} {q : Int} {fb : Nat → BlP} {nb : Nat} (he : encB q fb nb 6 = true) (hb : ∀ j, j < nb → AllB (fb j).p.zs) : Whl (wrS C g q fb nb 3) g q := fun a ha => by
  have e : ∀ s, s < 3 → wrS C g q fb nb 3 s (5 + (3 * g + a)) = rowE q fb nb 2 a (plc (3 * g + a) s) := fun s hs => by
    unfold wrS
    rw [if_pos ⟨hs, by omega, by omega⟩, show 5 + (3 * g + a) - 5 - 3 * g = a by omega, show 5 + (3 * g + a) - 5 = 3 * g + a by omega]
  have ht := (row_three he hb ha).turned (3 * g + a)
  refine ⟨fun s hs => ?_, fun s hs => ?_, fun s hs => ?_, ht.q0, ht.q1, fun t htt => ?_⟩
  · show (wrS _ _ _ _ _ _ _ _).length = _
    rw [e s hs]; exact ht.len s hs
  · show AllB (wrS _ _ _ _ _ _ _ _)
    rw [e s hs]; exact ht.sm s hs
  · show (wrS _ _ _ _ _ _ _ _).take 4 = _
    rw [e s hs]; exact ht.t4 s hs
  · have := ht.tot t htt
    simp only [e 0 (by omega), e 1 (by omega), e 2 (by omega)]
    exact this
theorem wrS_off {g g' : Nat} {q q' : Int} {fb : Nat → BlP} {nb : Nat} (hne : g' ≠ g) (h : Whl C g' q') : Whl (wrS C g q fb nb 3) g' q' := fun a ha => by
  have e : (fun s => wrS C g q fb nb 3 s (5 + (3 * g' + a))) = fun s => C s (5 + (3 * g' + a)) := by
    funext s
    unfold wrS
    rw [if_neg (by omega)]
  rw [e]
  exact h a ha
/-- The sector of block k. -/
theorem wrS_blk {g k : Nat} {q : Int} {fb : Nat → BlP} {nb : Nat} (hk : k < 6) : wrS C g q fb nb 3 (slt (3 * g + k / 2) (k % 2)) (5 + (3 * g + k / 2)) = enS q fb nb k := by
  have hlt := slt_lt (3 * g + k / 2) (k % 2)
  unfold wrS
  rw [if_pos ⟨hlt, by omega, by omega⟩, show 5 + (3 * g + k / 2) - 5 - 3 * g = k / 2 by omega, show 5 + (3 * g + k / 2) - 5 = 3 * g + k / 2 by omega, plc_slt (by omega)]
  unfold rowE rowF
  rw [if_pos (by omega)]
  show enS q fb nb (k / 2 * 2 + k % 2) = _
  rw [show k / 2 * 2 + k % 2 = k by omega]
end

end Go.Proofs.YtegmeoghonolcaaGreat
