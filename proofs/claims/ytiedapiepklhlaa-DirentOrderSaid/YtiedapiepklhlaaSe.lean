/-
  The reference's copy and comparison of entries, the statements' bound; by contract.
-/
import Derived.Test.YtiedapiepklhlaaCp
namespace Go.Proofs.Ytiedapiepklhlaa
open Go.RowKit
set_option linter.unusedVariables false
set_option linter.unusedSimpArgs false

set_option maxHeartbeats 1000000 in
theorem copyE_any (a : Option Addr) (n c : Nat) (L : List En) (w : World) (h : Ens w a n L) (hn : n ≤ 1000000) (hz : a = none → n = 0 ∧ c = 0) :
    Calls Try.prog 10 #[.slice a n c] w fun e w' => ∃ v, e = .returned v ∧ OwnE w' w.heap.size v n L ∧ Below w.heap.size w w' := by
  have HH := Lib.hid (h.alloc (.cells #[] 36))
  have HO := Lib.hid (ownE_none w w.heap.size (Nat.le_refl _))
  have HB := Lib.hid ((Below.refl w.heap.size w).alloc (Nat.le_refl _) (.cells #[] 36))
  have HZ := Lib.hid hz
  clear h hz
  go_enter Try.func10, Try.ntmps10
  go_wp2_with (at_builtin; go_must (refine wpList_ape rfl (.tmp 5) (.tmp 6) rfl w.heap.size _ 0 [] rfl HO.out a n c L rfl HH.out HZ.out (by omega) (by simp) w HB.out ?_); intro v4 w4 ho4 hb4)
  rw [Nat.zero_add, List.nil_append] at ho4
  have HO4 := Lib.hid ho4
  have HB4 := Lib.hid hb4
  clear ho4 hb4
  go_wp2_with (fail)
  go_ret
  exact ⟨_, rfl, HO4.out, HB4.out⟩

/-- Are they the same entries? -/
def sameE (x y : List En) : Bool := decide (x = y)
theorem sameE_len {x y : List En} (h : x.length ≠ y.length) : sameE x y = false := decide_eq_false fun e => h (by rw [e])
theorem sameE_at {x y : List En} {i : Nat} (h : eat x i ≠ eat y i) : sameE x y = false := decide_eq_false fun e => h (by rw [e])
/-- The first k entries are alike. -/
def FrontE (x y : List En) (k : Nat) : Prop := ∀ j, j < k → eat x j = eat y j
theorem FrontE.zero (x y : List En) : FrontE x y 0 := fun _ h => by omega
theorem FrontE.succ {x y : List En} {k : Nat} (h : FrontE x y k) (e : eat x k = eat y k) : FrontE x y (k + 1) := fun j hj => by
  by_cases hk : j = k
  · rw [hk]; exact e
  · exact h j (by omega)
theorem FrontE.all {x y : List En} {n : Nat} (hx : x.length = n) (hy : y.length = n) (h : FrontE x y n) : sameE x y = true :=
  decide_eq_true (eat_ext (by omega) fun i hi => h i (by omega))
set_option maxHeartbeats 2000000 in
theorem sameE_any (a b : Option Addr) (n m ca cb : Nat) (x y : List En) (w : World) (hx : Ens w a n x) (hy : Ens w b m y) (hn : n ≤ 1000000000000) (hm : m ≤ 1000000000000) :
    Calls Try.prog 17 #[.slice a n ca, .slice b m cb] w fun e w' => e = .returned (.bool (sameE x y)) ∧ Below w.heap.size w w' := by
  by_cases hl : n = m
  · subst hl
    have HX := Lib.hid hx
    have HY := Lib.hid hy
    clear hx hy
    go_enter Try.func17, Try.ntmps17
    go_wp2_with (fail)
    go_loopw [5] (fun v wr => ∃ k q : Nat, k ≤ n ∧ v = .int .i64 k ∧ wr = w.drewN q ∧ FrontE x y k) (fun v _ => n - (RowKit.intOf v).toNat)
    case atStart => exact ⟨0, 0, by omega, rfl, rfl, FrontE.zero _ _⟩
    case round =>
      obtain ⟨k, q, hk, rfl, rfl, hF⟩ := hrel
      have HF := Lib.hid hF
      clear hF
      by_cases hlt : k < n
      · have k1 : (k : Int) < (n : Int) := by omega
        have k0 : (0 : Int) ≤ (k : Int) := by omega
        obtain ⟨b1, o1, rfl, _, x1, x2⟩ := HX.out.at hlt
        obtain ⟨b2, o2, rfl, _, y1, y2⟩ := HY.out.at hlt
        obtain ⟨s1, e1⟩ : ∃ s, (eat x k).s = s := ⟨_, rfl⟩
        obtain ⟨s2, e2⟩ : ∃ s, (eat y k).s = s := ⟨_, rfl⟩
        obtain ⟨i1, e3⟩ : ∃ s, (eat x k).i = s := ⟨_, rfl⟩
        obtain ⟨i2, e4⟩ : ∃ s, (eat y k).i = s := ⟨_, rfl⟩
        rw [e1] at x1
        rw [e3] at x2
        rw [e2] at y1
        rw [e4] at y2
        have E1 := Lib.hid e1
        have E2 := Lib.hid e2
        have E3 := Lib.hid e3
        have E4 := Lib.hid e4
        clear e1 e2 e3 e4
        cases hs : (s1.toList == s2.toList) with
        | true =>
          have hse := Lib.hid (beqS_iff.1 (show beqS s1 s2 = true from hs))
          cases hi : (i1 == i2) with
          | true =>
            have hie := Lib.hid (beq_iff_eq.1 hi)
            go_wp2_with (fail)
            go_quiet (fail)
            go_wp2_with (fail)
            go_roundw
            case rel => exact ⟨k + 1, q + nq, by omega, by go_num, by rw [← World.drewN_drewN], HF.out.succ (En.ext' (by rw [E1.out, E2.out, hse.out]) (by rw [E3.out, E4.out, hie.out]))⟩
            case measure => simp [RowKit.intOf]; omega
          | false =>
            have hie := Lib.hid (beq_eq_false_iff_ne.1 hi)
            go_wp2_with (fail)
            go_quiet (fail)
            go_wp2_with (fail)
            go_ret
            exact ⟨by rw [sameE_at (i := k) (fun e => hie.out (by rw [← E3.out, ← E4.out, e]))]; rfl, below_drewN (below_drewN (Below.refl _ _) _) _⟩
        | false =>
          have hse := Lib.hid (show s1 ≠ s2 from fun e => by rw [e] at hs; have h2 : beqS s2 s2 = false := hs; rw [beqS_refl] at h2; cases h2)
          go_wp2_with (fail)
          go_quiet (fail)
          go_wp2_with (fail)
          go_ret
          exact ⟨by rw [sameE_at (i := k) (fun e => hse.out (by rw [← E1.out, ← E2.out, e]))]; rfl, below_drewN (below_drewN (Below.refl _ _) _) _⟩
      · obtain rfl : k = n := by omega
        have k1 : ¬ (k : Int) < (k : Int) := by omega
        have hr := Lib.hid (FrontE.all HX.out.len HY.out.len HF.out)
        go_wp2_with (fail)
        go_ret
        exact ⟨by rw [hr.out]; rfl, below_drewN (Below.refl _ _) _⟩
  · have hr := Lib.hid (sameE_len (x := x) (y := y) (by rw [hx.len, hy.len]; exact hl))
    have hne : ((n : Int) != (m : Int)) = true := by simp; omega
    clear hx hy
    go_enter Try.func17, Try.ntmps17
    go_wp2_with (fail)
    go_ret
    exact ⟨by rw [hr.out]; rfl, Below.refl _ _⟩

/-- How many bytes the names have. -/
def wei : List En → Nat
  | [] => 0
  | x :: r => x.s.size + wei r
theorem wei_snoc (L : List En) (x : En) : wei (L ++ [x]) = wei L + x.s.size := by
  induction L with
  | nil => simp [wei]
  | cons y L ih => simp [wei, ih]; omega
theorem wei_mem {L : List En} {x : En} (h : x ∈ L) : x.s.size ≤ wei L := by
  induction L with
  | nil => cases h
  | cons y L ih =>
    rcases List.mem_cons.1 h with rfl | h
    · simp [wei]
    · have := ih h
      simp [wei]; omega
theorem wei_take {L : List En} {k : Nat} (h : k ≤ L.length) : wei (L.take k) ≤ wei L := by
  have : L = L.take k ++ L.drop k := (List.take_append_drop k L).symm
  have e : ∀ (A B : List En), wei (A ++ B) = wei A + wei B := fun A B => by
    induction A with
    | nil => simp [wei]
    | cons y A ih => simp [wei, ih]; omega
  rw [this, e]
  simp
/-- What the statements let pass. -/
def Sml (L : List En) : Prop := L.length ≤ 300 ∧ wei L ≤ 10000
theorem Sml.fit {L : List En} (h : Sml L) : Fit L := fun x hx => Nat.le_trans (wei_mem hx) (Nat.le_trans h.2 (by decide))
def LongPost (w : World) (L : List En) (e : Ending) (w' : World) : Prop := ∃ r : Bool, e = .returned (.bool r) ∧ (r = false → Sml L) ∧ w' = w
set_option maxHeartbeats 2000000 in
theorem long_any (a : Option Addr) (n c : Nat) (L : List En) (w : World) (h : Ens w a n L) (hn : n ≤ 9223372036854775807) (hs : ∀ x ∈ L, x.s.size ≤ 4611686018427387904) :
    Calls Try.prog 9 #[.slice a n c] w (LongPost w L) := by
  have hl := h.len
  subst hl
  by_cases h3 : 300 < L.length
  · have k1 : (300 : Int) < (L.length : Int) := by omega
    clear h
    go_enter Try.func9, Try.ntmps9
    go_wp2_with (fail)
    go_ret
    exact ⟨true, rfl, (fun h => by cases h), rfl⟩
  have k1 : ¬ (300 : Int) < (L.length : Int) := by omega
  have HH := Lib.hid h
  have HS := Lib.hid hs
  clear h hs
  go_enter Try.func9, Try.ntmps9
  go_wp2_with (fail)
  go_loopw [3, 4] (fun v u wr => ∃ k : Nat, k ≤ L.length ∧ u = .int .i64 k ∧ v = .int .i64 (wei (L.take k)) ∧ wr = w ∧ wei (L.take k) ≤ 10000) (fun _ v _ => L.length - (RowKit.intOf v).toNat)
  case atStart => exact ⟨0, by omega, rfl, rfl, rfl, by simp [wei]⟩
  case round =>
    obtain ⟨k, hk, rfl, rfl, rfl, hw⟩ := hrel
    by_cases hlt : k < L.length
    · have k2 : (k : Int) < (L.length : Int) := by omega
      have k0 : (0 : Int) ≤ (k : Int) := by omega
      obtain ⟨b, off, rfl, hbl, hd1, hd2⟩ := HH.out.at hlt
      have hsn := wei_snoc (L.take k) (eat L k)
      rw [take_snoc hlt] at hsn
      have hsz := HS.out _ (eat_mem hlt)
      obtain ⟨m, hm⟩ : ∃ m, wei (L.take k) = m := ⟨_, rfl⟩
      obtain ⟨z, hz⟩ : ∃ z, (eat L k).s.size = z := ⟨_, rfl⟩
      rw [hm] at hw hsn ⊢
      rw [hz] at hsn hsz
      have HSN := Lib.hid hsn
      have HZ := Lib.hid hz
      have hw1 : IntKind.i64.wrap ((m : Int) + (((eat L k).s.size : Nat) : Int)) = ((m + z : Nat) : Int) := by rw [hz]; exact (IntWalk.i64_in _ (by omega)).trans (by omega)
      by_cases hbig : 10000 < m + z
      · have k3 : (10000 : Int) < ((m + z : Nat) : Int) := by omega
        clear hsn hz hm hbl hd2
        go_wp2_with (fail)
        go_ret
        exact ⟨true, rfl, (fun h => by cases h), rfl⟩
      · have k3 : ¬ (10000 : Int) < ((m + z : Nat) : Int) := by omega
        clear hsn hz hm hbl hd2
        go_wp2_with (fail)
        go_roundw
        case rel => exact ⟨k + 1, by omega, by go_num, val_int (by rw [HSN.out]; try omega), trivial, by rw [HSN.out]; omega⟩
        case measure => simp [RowKit.intOf]; omega
    · obtain rfl : k = L.length := by omega
      have k2 : ¬ (L.length : Int) < (L.length : Int) := by omega
      rw [List.take_of_length_le (Nat.le_refl _)] at hw
      go_wp2_with (fail)
      go_ret
      exact ⟨false, rfl, fun _ => ⟨by omega, hw⟩, rfl⟩
end Go.Proofs.Ytiedapiepklhlaa
