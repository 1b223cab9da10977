/-
  What a row of slices weighs: moraineref00's Weigh, by contract.
-/
import Derived.Test.YtegcjpocdfmpfaaVaa
import Derived.Test.YtegcjpocdfmpfaaVao
import Derived.Test.YtegcjpocdfmpfaaVar
import Derived.Test.YtegcjpocdfmpfaaVaj
set_option linter.unusedVariables false
set_option linter.unusedSimpArgs false
set_option maxRecDepth 100000
set_option maxHeartbeats 16000000
namespace Go.Proofs.Ytegcjpocdfmpfaa
open Go.RowKit

/-- What a row weighs, as far as its limit. -/
def WeighPost (L : Nat) (f : Nat → Pc) (n : Nat) (w : World) (e : Ending) (w' : World) : Prop :=
  ∃ t : Nat, t ≤ 9223372036854775807 ∧ e = .returned (.int .i64 t) ∧ w = w' ∧ (t ≤ L → n ≤ L ∧ ∀ i, i < n → (f i).n ≤ L)
def WeighRel (f : Nat → Pc) (n : Nat) (u v : Value) : Prop := ∃ t k : Nat, k ≤ n ∧ t ≤ 140737488400000 ∧ u = .int .i64 t ∧ v = .int .i64 k ∧ ∀ i, i < k → (f i).n ≤ t
theorem weigh_any (L : Nat) (hL : L ≤ 20000) (a : Option Addr) (n c : Nat) (f : Nat → Pc) (w : World) (h : Rws w a n f) (hn : n ≤ 9223372036854775807) (hb : ∀ i, i < n → (f i).n ≤ reachBytes) :
    Calls Try.prog 24 #[.slice a n c, .int .i64 L] w (WeighPost L f n w) := by
  have HB := Lib.hid hb
  clear hb
  by_cases h1 : n ≤ L
  · have e1 : ¬ (L : Int) < (n : Int) := by omega
    go_enter Try.func24, Try.ntmps24
    go_wp2_with (fail)
    go_loop [5, 6] (fun u v => WeighRel f n u v) (fun _ v => n - (RowKit.intOf v).toNat)
    case atStart => exact ⟨n, 0, by omega, by omega, rfl, rfl, fun i hi => by omega⟩
    case round =>
      obtain ⟨t, k, hk, ht, rfl, rfl, hall⟩ := hrel
      have HA := Lib.hid hall
      clear hall
      by_cases hlt : k < n
      · by_cases ht2 : t ≤ L
        · obtain ⟨b, off, x, m, d, zs, rfl, hbl, hc, hp, hfz, hfn⟩ := h.at hlt
          have hm := HB.out k hlt
          rw [hfn] at hm
          unfold reachBytes at hm
          have HF := Lib.hid hfn
          have e2 : ((t : Int) ≤ L) := by omega
          clear h hp hfz hfn
          go_wp2_with (fail)
          go_round
          case rel => exact ⟨t + m, k + 1, by omega, by omega, by go_num, by go_num, fun i hi => by
            rcases Nat.lt_or_ge i k with h1 | h1
            · have := HA.out i h1; omega
            · obtain rfl : i = k := by omega
              rw [HF.out]; omega⟩
          case measure => simp [RowKit.intOf]; omega
        · have e2 : ¬ ((t : Int) ≤ L) := by omega
          clear h
          go_wp2_with (fail)
          go_ret
          exact ⟨t, by omega, rfl, rfl, fun h => absurd h ht2⟩
      · obtain rfl : k = n := by omega
        clear h
        go_wp2_with (fail)
        all_goals (go_ret; exact ⟨t, by omega, rfl, rfl, fun h => ⟨h1, fun i hi => Nat.le_trans (HA.out i hi) h⟩⟩)
  · have e1 : (L : Int) < (n : Int) := by omega
    clear h
    go_enter Try.func24, Try.ntmps24
    go_wp2_with (fail)
    go_ret
    exact ⟨L + 1, by omega, rfl, rfl, fun h => by omega⟩


/-- A program reads so many blocks at most. -/
def few {α : Type} : Rp α → Nat → Prop
  | .ret _, _ => True
  | .bad _, _ => True
  | .rd _ _, 0 => False
  | .rd _ k, n + 1 => ∀ b, few (k b) n
section
variable {α β : Type} {N : Int} {blk : Int → Option (List Int)}
theorem few_mono {p : Rp α} {m n : Nat} (h : few p m) (hm : m ≤ n) : few p n := by
  induction p generalizing m n with
  | ret a => trivial
  | bad e => trivial
  | rd q k ih =>
    cases m with
    | zero => exact h.elim
    | succ m =>
      obtain ⟨n, rfl⟩ : ∃ j, n = j + 1 := ⟨n - 1, by omega⟩
      intro b
      exact ih b (h b) (by omega)
theorem few_bind {p : Rp α} {f : α → Rp β} {m n : Nat} (h : few p m) (h2 : ∀ a, few (f a) n) : few (p.bind f) (m + n) := by
  induction p generalizing m with
  | ret a => exact few_mono (h2 a) (by omega)
  | bad e => trivial
  | rd q k ih =>
    cases m with
    | zero => exact h.elim
    | succ m =>
      rw [show m + 1 + n = (m + n) + 1 by omega]
      intro b
      exact ih b (h b)
theorem few_len {p : Rp α} {n : Nat} (h : few p n) {l l' : List Int} {a : α} (hr : run N blk p l = .ok (a, l')) : l'.length ≤ l.length + n := by
  induction p generalizing n l with
  | ret a => rw [run] at hr; cases hr; omega
  | bad e => rw [run] at hr; cases hr
  | rd q k ih =>
    cases n with
    | zero => exact h.elim
    | succ n =>
      rw [run] at hr
      by_cases hq : isA N q = true
      · rw [if_pos hq] at hr
        cases hb : blk q with
        | none => rw [hb] at hr; cases hr
        | some b =>
          rw [hb] at hr
          by_cases h3 : b.length = 56
          · simp only [h3, if_true] at hr
            have := ih b (h b) hr
            rw [List.length_append, List.length_singleton] at this
            omega
          · simp only [h3, if_false] at hr
            cases hr
      · rw [if_neg hq] at hr; cases hr
theorem rd_inv {q : Int} {k : List Int → Rp α} {l : List Int} {r : α × List Int} (h : run N blk (.rd q k) l = .ok r) : ∃ b l1, run N blk (k b) l1 = .ok r := by
  rw [run] at h
  by_cases hq : isA N q = true
  · rw [if_pos hq] at h
    cases hb : blk q with
    | none => rw [hb] at h; cases h
    | some b =>
      rw [hb] at h
      by_cases h3 : b.length = 56
      · simp only [h3, if_true] at h
        exact ⟨b, _, h⟩
      · simp only [h3, if_false] at h
        cases h
  · rw [if_neg hq] at h; cases h
theorem bind_inv {p : Rp α} {f : α → Rp β} {l : List Int} {r : β × List Int} (h : run N blk (p.bind f) l = .ok r) : ∃ a l1, run N blk (f a) l1 = .ok r := by
  rw [run_bind] at h
  cases hp : run N blk p l with
  | error e => rw [hp] at h; cases h
  | ok x => rw [hp] at h; exact ⟨x.1, x.2, h⟩
end
theorem rdP_few (p : Int) : few (rdP p) 1 := by
  unfold rdP
  split
  · trivial
  · intro b; trivial
theorem ptP_few (dbl : List Int) (nb : Int) (k i : Nat) (acc : List Int) (h wr : Bool) : few (ptP dbl nb k i acc h wr) k := by
  induction k generalizing i acc h wr with
  | zero => trivial
  | succ k ih =>
    rw [ptP, show k + 1 = 1 + k by omega]
    exact few_bind (rdP_few _) fun p => ih _ _ _ _
theorem ndP_few (N ino p : Int) : few (ndP N ino p) 31 := by
  unfold ndP
  intro b
  dsimp only
  split
  · refine few_bind (m := 1) (n := 29) (rdP_few _) fun s => few_bind (m := 1) (n := 28) (rdP_few _) fun d => few_bind (m := 28) (n := 0) (ptP_few _ _ _ _ _ _ _) fun q => ?_
    split <;> trivial
  · trivial
theorem nsP_few (N : Int) (ch : List Int) (k i : Nat) (L : List Nd) (h : Bool) : few (nsP N ch k i L h) (k * 31) := by
  induction k generalizing i L h with
  | zero => trivial
  | succ k ih =>
    rw [nsP]
    split
    · exact few_mono (ih _ _ _) (by omega)
    · rw [show (k + 1) * 31 = 31 + k * 31 by omega]
      exact few_bind (ndP_few _ _ _) fun q => ih _ _ _
theorem few_rd {α : Type} {q : Int} {k : List Int → Rp α} {n : Nat} (h : ∀ b, few (k b) n) : few (.rd q k) (n + 1) := h
theorem loadP_few' (N root : Int) (K : Nat) (hK : ∀ A, few (nsP N A 56 0 [] false) K) : few (loadP N root) (K + 0 + 1 + 1 + 1) := by
  unfold loadP
  generalize nsP N = Q at hK ⊢
  refine few_rd fun b => ?_
  split
  · refine few_rd fun c => ?_
    refine few_rd fun d => ?_
    have hk := hK (gpL c 28 ++ gpL d 28)
    refine few_bind (n := 0) hk fun q => ?_
    split <;> trivial
  · trivial
theorem nsP_few' (N : Int) (k K : Nat) (hK : K = k * 31) (A : List Int) : few (nsP N A k 0 [] false) K := by
  subst hK
  exact nsP_few _ _ _ _ _ _
theorem loadP_few (N root : Int) : ∃ K, K = 1739 ∧ few (loadP N root) K :=
  ⟨1736 + 0 + 1 + 1 + 1, rfl, loadP_few' N root 1736 (nsP_few' N 56 1736 rfl)⟩
/-- What is loaded is a list's, and few blocks are read. -/
theorem ld_few {N : Int} {blk : Int → Option (List Int)} {root : Int} {L : List Nd} {l : List Int} (h : ldR N blk root = .ok (L, l)) : L.length ≤ 56 ∧ (∀ i, i < L.length → (L.getD i default).ads.length ≤ 828) ∧ l.length ≤ 1739 := by
  have hl : l.length ≤ 1739 := by
    obtain ⟨K, hK, hf⟩ := loadP_few N root
    have := few_len hf h
    rw [hK] at this
    simpa using this
  have hr : lrO N L = true := by
    unfold ldR loadP at h
    obtain ⟨b, l1, h1⟩ := rd_inv h
    split at h1
    · obtain ⟨c, l2, h2⟩ := rd_inv h1
      obtain ⟨d, l3, h3⟩ := rd_inv h2
      obtain ⟨q, l4, h4⟩ := bind_inv h3
      split at h4
      · rw [run] at h4; cases h4
      · rename_i hq
        rw [run] at h4
        cases h4
        cases hb : lrO N q.1 with
        | true => rfl
        | false => rw [hb] at hq; simp at hq
    · rw [run] at h1; cases h1
  have hL := lrO_iff.1 hr
  refine ⟨hL.l2, fun i hi => ?_, hl⟩
  have h1 := (hL.nd i hi).l
  have h2 := blkN_le (L.getD i default).size
  omega
theorem ld_none (blk : Int → Option (List Int)) (root : Int) : ldR 0 blk root = .error 15 := by
  unfold ldR loadP
  rw [run, isA_zero]
  rfl
end Go.Proofs.Ytegcjpocdfmpfaa
