/-
  'restore' of a disk, by contract.
-/
import Derived.Test.YtciddoeeiamndaaKeys
import Derived.Test.YtciddoeeiamndaaFlush
import Derived.StillTailTactics
namespace Go.Proofs.Ytciddoeeiamndaa
open Go.RowKit Go.Maps

/-- Does this sector's cached content last? -/
def Dk.stays (d : Dk) (ks : List Int) (num s : Nat) : Bool := (d.cache s).isSome && (!d.bad && keptB ks (num + rank d.cache s))
def Dk.rest (d : Dk) (ks : List Int) (num s : Nat) : List Int := if d.stays ks num s then d.read s else sec d.last s
/-- A disk behind Restore, its first cached sector having this number. -/
def Dk.restore (S : Nat) (d : Dk) (ks : List Int) (num : Nat) : Dk := { d with last := joinS S (d.rest ks num), cache := noneC }

/-- The sectors behind the first k of the cached ones. -/
def Half2 (S : Nat) (d : Dk) (ks : List Int) (num k : Nat) (L : List Int) : Prop := ∀ s, s < S → sec L s = if d.stays ks num s && decide (rank d.cache s < k) then d.read s else sec d.last s

theorem Half2.start (S : Nat) (d : Dk) (ks : List Int) (num : Nat) : Half2 S d ks num 0 d.last := fun s _ => by simp
theorem Half2.skip {S : Nat} {d : Dk} {ks : List Int} {num k s : Nat} {L : List Int} (h : Half2 S d ks num k L) (hs : s < S) (hr : rank d.cache s = k) (hc : (d.cache s).isSome = true) (hn : d.stays ks num s = false) : Half2 S d ks num (k + 1) L := fun t ht => by
  rw [h t ht]
  by_cases e : t = s
  · subst e
    rw [hn]
    rfl
  · cases hct : (d.cache t).isSome with
    | false => simp [Dk.stays, hct]
    | true =>
      have hne : rank d.cache t ≠ k := fun hk => by
        have h1 := cN_rank ht hct
        have h2 := cN_rank hs hc
        rw [hk, ← hr, h2] at h1
        exact e h1.symm
      have : (decide (rank d.cache t < k + 1)) = decide (rank d.cache t < k) := decide_eq_decide.2 (by omega)
      rw [this]
theorem Half2.step {S : Nat} {d : Dk} {ks : List Int} {num k s : Nat} {L zs : List Int} (h : Half2 S d ks num k L) (hl : L.length = S * 64) (hs : s < S) (hz : zs.length = 64) (hr : rank d.cache s = k) (hc : d.cache s = some zs) (hn : d.stays ks num s = true) :
    Half2 S d ks num (k + 1) (upd L s zs) := fun t ht => by
  by_cases e : t = s
  · subst e
    rw [sec_same hl hs hz, hn, hr]
    simp [Dk.read, hc]
  · rw [sec_other hl hs ht hz e, h t ht]
    cases hct : (d.cache t).isSome with
    | false => simp [Dk.stays, hct]
    | true =>
      have hne : rank d.cache t ≠ k := fun hk => by
        have h1 := cN_rank ht hct
        have h2 := cN_rank hs (show (d.cache s).isSome = true by rw [hc]; rfl)
        rw [hk, ← hr, h2] at h1
        exact e h1.symm
      have : (decide (rank d.cache t < k + 1)) = decide (rank d.cache t < k) := decide_eq_decide.2 (by omega)
      rw [this]
theorem Dk.rest_len {w : World} {M : Nat → Prop} {S db o lb mb s : Nat} {d : Dk} (h : DrvAt w M S db o lb mb d) (ks : List Int) (num : Nat) (hs : s < S) : (d.rest ks num s).length = 64 ∧ AllB (d.rest ks num s) := by
  unfold Dk.rest
  split
  · exact Dk.read_len h hs
  · exact ⟨sec_len h.len hs, h.small.sec s⟩
theorem Half2.done {w : World} {M : Nat → Prop} {S db o lb mb : Nat} {d : Dk} {ks : List Int} {num : Nat} {L : List Int} (hd : DrvAt w M S db o lb mb d) (h : Half2 S d ks num (rank d.cache S) L) (hl : L.length = S * 64) : L = joinS S (d.rest ks num) := by
  have hj : ∀ s, s < S → (d.rest ks num s).length = 64 := fun s hs => (Dk.rest_len hd ks num hs).1
  refine sec_ext hl (joinS_len hj) fun s hs => ?_
  rw [sec_join hj hs, h s hs]
  unfold Dk.rest
  cases hst : d.stays ks num s with
  | false => rfl
  | true =>
    have hc : (d.cache s).isSome = true := by
      unfold Dk.stays at hst
      simp at hst
      exact hst.1
    have := rank_lt hs hc
    simp [this]

theorem turn_drew (M : Nat → Prop) (w : World) : Turn M w w.drew := ⟨rfl, rfl, rfl, Nat.le_refl _, fun _ _ _ => rfl⟩
theorem Blk.drew {w : World} {g : Nat} {zs : List Int} (h : Blk w g zs) : Blk w.drew g zs := ⟨h.row⟩

end Go.Proofs.Ytciddoeeiamndaa
