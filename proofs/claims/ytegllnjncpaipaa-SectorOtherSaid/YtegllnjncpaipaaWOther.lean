/-
  SectorOther, walked.
-/
import Derived.Test.YtegllnjncpaipaaRows4
import Derived.Test.YtegllnjncpaipaaWBack
namespace Go.Proofs.Ytegllnjncpaipaa
open Go.RowKit

/-- The row that the loop makes. -/
def OthRel (q : Int) (w0 : World) (n : Nat) (u v : Value) (w : World) : Prop :=
  ∃ (k : Nat) (f : Nat → Pc), k ≤ n ∧ v = .int .i64 k ∧ OwnR w w0.heap.size u k f ∧ (∀ i, i < k → (f i).zs = encL q i 0 [(i : Int)]) ∧ Below w0.heap.size w0 w
theorem enc_fit {q o i : Int} {x : List Int} (h0 : 0 ≤ q) (h1 : q < 4294967296) (h2 : 0 ≤ o) (h3 : o < 65536) (h4 : 0 ≤ i) (h5 : i < 65536) (hx : x.length ≤ 56) : encO q o i x = true := by
  rw [encO, okH, hasW4_of h0 h1, hasW2_of h2 h3, hasW2_of h4 h5]
  simp [hx]
theorem enc_seq {q o i : Int} {x : List Int} (h : encO q o i x = true) : (encL q o i x).take 4 = digs 4 q := by
  rw [(encO_ok h).eq]
  exact List.take_left' (digs_len 4 q)
theorem digs4_ne {q : Int} (h0 : 0 ≤ q) (h1 : q + 1 < 4294967296) : digs 4 (q + 1) ≠ digs 4 q := fun e => by
  have h2 := getN_app [] 4 (q + 1) [] (by omega) (by omega)
  have h3 := getN_app [] 4 q [] h0 (by omega)
  rw [e, h3] at h2
  omega
/-- All sectors of one writing have one Seq. -/
theorem one_of_enc {q : Int} {f : Nat → Pc} {n : Nat} (h0 : 0 ≤ q) (h1 : q < 4294967296) (hn : 0 < n) (hn2 : n ≤ 16) (hf : ∀ i, i < n → (f i).zs = encL q i 0 [(i : Int)]) : oneSeq f n = true := by
  have he : ∀ i : Nat, i < n → encO q i 0 [(i : Int)] = true := fun i hi => enc_fit h0 h1 (by omega) (by omega) (by omega) (by omega) (by simp)
  rw [oneSeq, Bool.and_eq_true]
  refine ⟨by simpa using hn, oneUpto_of fun k hk => ?_⟩
  rw [hf k hk, hf 0 hn]
  exact ⟨(encO_ok (he k hk)).len, by rw [enc_seq (he k hk), enc_seq (he 0 hn)]⟩
theorem one_not {f : Nat → Pc} {n k : Nat} (hk : k < n) (h : (f k).zs.length = 64 → (f k).zs.take 4 = (f 0).zs.take 4 → False) : oneSeq f n = false := by
  cases ho : oneSeq f n
  · rfl
  · rw [oneSeq, Bool.and_eq_true] at ho
    have := oneUpto_at hk ho.2
    exact absurd this.2 (h this.1)

theorem apart_new {ra a2 : Option Addr} {n c S : Nat} (h1 : ∀ x, ra = some x → x.block < S) (h2 : ∀ x, a2 = some x → S ≤ x.block) : ∀ y, a2 = some y → some y.block ≠ (Value.slice ra n c).ownBlock := fun y hy e => by
  cases hra : ra with
  | none => rw [hra] at e; cases e
  | some r =>
    rw [hra] at e
    have h3 := h1 r hra
    have h4 := h2 y hy
    have h5 : y.block = r.block := by simpa [Value.ownBlock] using e
    omega
theorem ownR_low {w w1 : World} (hB : Below w.heap.size w w1) {f : Nat → Pc} : OwnR (w1.alloc (.cells #[] 24)) w.heap.size (.slice (some ⟨w1.heap.size, 0, none⟩) 0 0) 0 f := ownR_none w1 _ hB.size f

set_option maxHeartbeats 4000000 in
theorem walk_other_in (q : Int) (n k : Nat) (w : World) (h1 : 1 ≤ q) (h2 : q < 2147483648) (h3 : 2 ≤ n) (h4 : n ≤ 16) (h5 : k < n) :
    Calls Try.prog 7 #[.int .i64 q, .int .i64 n, .int .i64 k] w fun e w' => e = .returned (.bool true) ∧ Below w.heap.size w w' := by
  have e1 : decide (q < 1) = false := decide_eq_false (by omega)
  have e2 : decide (2147483648 ≤ q) = false := decide_eq_false (by omega)
  have e3 : decide ((n : Int) < 2) = false := decide_eq_false (by omega)
  have e4 : decide ((16 : Int) < (n : Int)) = false := decide_eq_false (by omega)
  have e5 : decide ((k : Int) < 0) = false := decide_eq_false (by omega)
  have e6 : decide (n ≤ k) = false := decide_eq_false (by omega)
  go_enter Try.func7, Try.ntmps7
  go_wp2_with (fail)
  refine (alive_any w).mono ?_
  rintro e w1 ⟨rfl, hB1⟩
  go_wp2_with (fail)
  clear e1 e2 e3 e4 e5 e6
  go_loopw [7, 8] (fun u v wr => OthRel q w n u v wr) (fun _ v _ => n - (intOf v).toNat)
  case atStart => exact ⟨0, fun _ => default, by omega, rfl, ownR_low hB1, (fun i hi => by omega), hB1.alloc hB1.size _⟩
  case round =>
    obtain ⟨j, f, hj, rfl, ho, hf, hb⟩ := hrel
    have HF := Lib.hid hf
    clear hf hB1
    have hsz := hb.size
    obtain ⟨ra, rc, rfl, _, _, _, hlo⟩ := ho.rws
    have HLO := Lib.hid hlo
    clear hlo
    by_cases hlt : j < n
    · have he := enc_fit (q := q) (o := j) (i := 0) (x := [(j : Int)]) (by omega) (by omega) (by omega) (by omega) (by omega) (by omega) (by simp)
      have hl : (encL q j 0 [(j : Int)]).length = 64 := (encO_ok he).len
      have hlit : Bys (wr.alloc (.cells #[.int .u8 (j : Int)] 5)) (some ⟨wr.heap.size, 0, none⟩) 1 [(j : Int)] := bys_one wr (by omega)
      have henc := enc_n q j 0 (some ⟨wr.heap.size, 0, none⟩) 1 1 [(j : Int)] _ hlit
      rw [he] at henc
      go_wp2_with (fail)
      refine henc.mono ?_
      rintro e w2 ⟨a2, n2, c2, rfl, hp2, hnew, hb2⟩
      obtain rfl : n2 = 64 := by rw [← hp2.len, hl]
      have hor := ((ho.next ((Below.refl _ _).alloc (Nat.le_refl _) (.cells #[.int .u8 (j : Int)] 5))).next hb2).next ((Below.refl _ _).alloc (Nat.le_refl _) (.cells #[.slice a2 64 c2] 24))
      have hB2 : Below w.heap.size w w2 := (hb.alloc hsz _).trans (hb2.mono (by simp; omega))
      have hs2 := hB2.size
      have HAP := Lib.hid (show (64 : Nat) = 0 ∨ ∀ y, a2 = some y → some y.block ≠ (Value.slice ra j rc).ownBlock from .inr (apart_new (S := wr.heap.size) (fun x hx => (HLO.out x hx).2) (fun x hx => by have := hnew x hx; simp at this; omega)))
      clear ho hb hb2 hnew henc hlit he hl
      go_wp2_with (at_builtin; go_must (refine wpList_apR rfl (.tmp 59) (.tmp 61) rfl w.heap.size _ j f rfl hor w2.heap.size rfl a2 64 c2 _ (by simp) (hp2.alloc _) HAP.out (by omega) (by simp; omega) w (hB2.alloc hs2 _) ?_); intro v3 w3 ho3 hb3 _ _)
      go_roundw
      case rel => exact ⟨j + 1, _, by omega, by go_num, ho3, (fun i hi => by
        rcases Nat.lt_or_ge i j with h1 | h1
        · rw [snoc_old h1]; exact HF.out i h1
        · obtain rfl : i = j := by omega
          rw [snoc_new]), hb3⟩
      case measure => simp [intOf]; omega
    · obtain rfl : j = n := by omega
      have hone := one_of_enc (by omega) (by omega) (by omega) h4 HF.out
      obtain ⟨g, c, e, hr, hnc, hcm, hBg⟩ := ho.rb (by omega)
      cases e
      have q1 := par_any (some ⟨g, 0, none⟩) j rc f wr hr.rws (by omega)
      rw [hone] at q1
      clear ho
      go_wp2_with (fail)
      refine q1.mono ?_
      rintro e w2 ⟨a2, n2, c2, rfl, _, hb2⟩
      have hr := hr.next hb2
      have hB2 := hb.trans (hb2.mono hsz)
      have hq1 : IntKind.i64.wrap (q + 1) = q + 1 := IntWalk.i64_in _ (by omega)
      clear q1 hb2 hsz hb
      have he := enc_fit (q := q + 1) (o := k) (i := 0) (x := []) (by omega) (by omega) (by omega) (by omega) (by omega) (by omega) (by simp)
      have hEO := Lib.hid (encO_ok he)
      have HSQ := Lib.hid (enc_seq he)
      have henc := enc_n (q + 1) k 0 none 0 0 [] w2 (Bys.none none)
      rw [he] at henc
      clear he hq1
      go_wp2_with (fail)
      refine henc.mono ?_
      rintro e w3 ⟨a3, n3, c3, rfl, hp3, hnew, hb3⟩
      obtain rfl : n3 = 64 := by rw [← hp3.len, hEO.out.len]
      have hlt2 := hr.lt
      have hr := hr.next hb3
      have hB3 := hB2.trans (hb3.mono hB2.size)
      have HAP := Lib.hid (show (64 : Nat) = 0 ∨ ∀ y, a3 = some y → y.block ≠ g from .inr fun y hy e => by have := hnew y hy; omega)
      obtain ⟨x, m, d, zs, hfk⟩ : ∃ x m d zs, f k = ⟨x, m, d, zs⟩ := ⟨_, _, _, _, rfl⟩
      have g0 : w3.cell? ⟨g, k, none⟩ = some (.slice x m d) := by have := hr.cell k h5; rwa [hfk] at this
      have hpk : Pin w3 x m d zs := by have := hr.each k h5; rwa [hfk] at this
      have hak : m = 0 ∨ ∀ y, x = some y → y.block ≠ g := by have := hr.apart k h5; rwa [hfk] at this
      have hzk : zs = encL q k 0 [(k : Int)] := by have := HF.out k h5; rwa [hfk] at this
      obtain rfl : m = 64 := by rw [← hpk.len, hzk, (encO_ok (enc_fit (q := q) (o := k) (i := 0) (x := [(k : Int)]) (by omega) (by omega) (by omega) (by omega) (by omega) (by omega) (by simp))).len]
      have g1 := hr.free k
      have hpc := hpk.cap
      have hpm := hpk.max
      have hxs : ∃ y, x = some y := by obtain ⟨b, o, e, _⟩ := hpk.at (by omega); exact ⟨_, e⟩
      obtain ⟨y, rfl⟩ := hxs
      have k0 : (0 : Int) ≤ (k : Int) := by omega
      have k1 : (k : Int) < (j : Int) := by omega
      clear henc hnew hb3 hB2
      go_wp2_with (fail)
      have hr4 := hr.set h5 hp3 HAP.out
      have hB4 : Below w.heap.size w (w3.setCell ⟨g, k, none⟩ (.slice a3 64 c3)) := hB3.setCell hBg _
      have hno : oneSeq (snoc f k ⟨a3, 64, c3, encL (q + 1) k 0 []⟩) j = false := by
        have hd := digs4_ne (q := q) (by omega) (by omega)
        have hf1 : ∀ i : Nat, i < j → (f i).zs.take 4 = digs 4 q := fun i hi => by
          rw [HF.out i hi]
          exact enc_seq (enc_fit (by omega) (by omega) (by omega) (by omega) (by omega) (by omega) (by simp))
        by_cases hk0 : k = 0
        · refine one_not (k := 1) (by omega) fun _ h2 => ?_
          rw [show snoc f k ⟨a3, 64, c3, encL (q + 1) k 0 []⟩ 1 = f 1 from if_neg (by omega), show snoc f k ⟨a3, 64, c3, encL (q + 1) k 0 []⟩ 0 = ⟨a3, 64, c3, encL (q + 1) k 0 []⟩ from if_pos hk0.symm] at h2
          rw [hf1 1 (by omega)] at h2
          exact hd (by rw [h2, ← HSQ.out])
        · refine one_not h5 fun _ h2 => ?_
          rw [snoc_new, show snoc f k ⟨a3, 64, c3, encL (q + 1) k 0 []⟩ 0 = f 0 from if_neg (by omega)] at h2
          rw [hf1 0 (by omega)] at h2
          exact hd (by rw [← HSQ.out, ← h2])
      have q4 := par_any (some ⟨g, 0, none⟩) j rc _ _ hr4.rws (by omega)
      rw [hno] at q4
      refine q4.mono ?_
      rintro e w5 ⟨a5, n5, c5, rfl, _, hb5⟩
      have hp4 := (hpk.setCell (p := ⟨g, k, none⟩) (.slice a3 64 c3) hak).next hb5
      have hr5 := hr4.next hb5
      have hB5 := hB4.trans (hb5.mono hB4.size)
      have hq5 := hp4.front (k := 63) (by omega) (fun h => by cases h)
      have hak5 : (63 : Nat) = 0 ∨ ∀ z, some y = some z → z.block ≠ g := hak.imp (fun h => by omega) id
      have hr6 := hr5.set h5 hq5 hak5
      have hB6 : Below w.heap.size w (w5.setCell ⟨g, k, none⟩ (.slice (some y) 63 d)) := hB5.setCell hBg _
      have hno6 : oneSeq (snoc (snoc f k ⟨a3, 64, c3, encL (q + 1) k 0 []⟩) k ⟨some y, 63, d, zs.take 63⟩) j = false := by
        refine one_not h5 fun h2 _ => ?_
        rw [snoc_new] at h2
        have h3 : (zs.take 63).length = 64 := h2
        have := hq5.len
        omega
      have q6 := par_any (some ⟨g, 0, none⟩) j rc _ _ hr6.rws (by omega)
      rw [hno6] at q6
      have gc := hr5.cell k h5
      rw [snoc_new] at gc
      have gf := hr5.free k
      clear q4 hno hno6 hr hr4 hr5 hr6 hp3 hpk hp4 hq5 hfk hzk g0 g1 hB3 hB4 hb5 hEO HSQ
      go_wp2_with (fail)
      refine q6.mono ?_
      rintro e w7 ⟨a7, n7, c7, rfl, _, hb7⟩
      go_wp2_with (fail)
      go_ret
      exact ⟨rfl, hB6.trans (hb7.mono hB6.size)⟩

set_option maxHeartbeats 2000000 in
theorem walk_other (q n a : Int) (w : World) :
    Calls Try.prog 7 #[.int .i64 q, .int .i64 n, .int .i64 a] w fun e w' => e = .returned (.bool true) ∧ Below w.heap.size w w' := by
  by_cases h0 : q < 1
  · have d0 : decide (q < 1) = true := decide_eq_true h0
    clear h0
    go_enter Try.func7, Try.ntmps7
    go_wp2_with (fail)
    refine (alive_any w).mono ?_
    rintro e w1 ⟨rfl, hB1⟩
    go_wp2_with (fail)
    go_ret
    exact ⟨rfl, hB1⟩
  have d0 : decide (q < 1) = false := decide_eq_false h0
  by_cases h1 : 2147483648 ≤ q
  · have d1 : decide (2147483648 ≤ q) = true := decide_eq_true h1
    clear h0 h1
    go_enter Try.func7, Try.ntmps7
    go_wp2_with (fail)
    refine (alive_any w).mono ?_
    rintro e w1 ⟨rfl, hB1⟩
    go_wp2_with (fail)
    go_ret
    exact ⟨rfl, hB1⟩
  have d1 : decide (2147483648 ≤ q) = false := decide_eq_false h1
  by_cases h2 : n < 2
  · have d2 : decide (n < 2) = true := decide_eq_true h2
    clear h0 h1 h2
    go_enter Try.func7, Try.ntmps7
    go_wp2_with (fail)
    refine (alive_any w).mono ?_
    rintro e w1 ⟨rfl, hB1⟩
    go_wp2_with (fail)
    go_ret
    exact ⟨rfl, hB1⟩
  have d2 : decide (n < 2) = false := decide_eq_false h2
  by_cases h3 : 16 < n
  · have d3 : decide (16 < n) = true := decide_eq_true h3
    clear h0 h1 h2 h3
    go_enter Try.func7, Try.ntmps7
    go_wp2_with (fail)
    refine (alive_any w).mono ?_
    rintro e w1 ⟨rfl, hB1⟩
    go_wp2_with (fail)
    go_ret
    exact ⟨rfl, hB1⟩
  have d3 : decide (16 < n) = false := decide_eq_false h3
  by_cases h4 : a < 0
  · have d4 : decide (a < 0) = true := decide_eq_true h4
    clear h0 h1 h2 h3 h4
    go_enter Try.func7, Try.ntmps7
    go_wp2_with (fail)
    refine (alive_any w).mono ?_
    rintro e w1 ⟨rfl, hB1⟩
    go_wp2_with (fail)
    go_ret
    exact ⟨rfl, hB1⟩
  have d4 : decide (a < 0) = false := decide_eq_false h4
  by_cases h5 : n ≤ a
  · have d5 : decide (n ≤ a) = true := decide_eq_true h5
    clear h0 h1 h2 h3 h4 h5
    go_enter Try.func7, Try.ntmps7
    go_wp2_with (fail)
    refine (alive_any w).mono ?_
    rintro e w1 ⟨rfl, hB1⟩
    go_wp2_with (fail)
    go_ret
    exact ⟨rfl, hB1⟩
  obtain ⟨m, rfl⟩ := Int.eq_ofNat_of_zero_le (by omega : 0 ≤ n)
  obtain ⟨k, rfl⟩ := Int.eq_ofNat_of_zero_le (by omega : 0 ≤ a)
  exact walk_other_in q m k w (by omega) (by omega) (by omega) (by omega) (by omega)

end Go.Proofs.Ytegllnjncpaipaa
