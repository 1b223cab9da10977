/-
  A map's keys, sorted.
-/
import Derived.Test.YtciddoeeiamndaaLay
import Derived.Test.YtciddoeeiamndaaDrv
namespace Go.Proofs.Ytciddoeeiamndaa
open Go.RowKit Go.Maps Go.Sort Go.Shelf

theorem ins_turn {M : Nat → Prop} {w w' : World} {a : Option Addr} {n : Nat} {ks : List Int} (h : Ins w a n ks) (ht : Turn M w w') (hm : ∀ b off, a = some ⟨b, off, none⟩ → ¬ M b) : Ins w' a n ks := by
  refine ⟨h.1, ?_⟩
  rcases h.2 with h0 | ⟨b, off, ha, hlt, hc⟩
  · exact .inl h0
  · exact .inr ⟨b, off, ha, Nat.lt_of_lt_of_le hlt ht.size, fun i hi => (ht.cell (a := ⟨b, off + i, none⟩) hlt (hm b off ha)).trans (hc i hi)⟩

theorem ins_turn' {M : Nat → Prop} {w w' : World} {a : Option Addr} {n : Nat} {ks : List Int} (h : Ins w a n ks) (ht : Turn M w w') (hm : n = 0 ∨ ∀ b off, a = some ⟨b, off, none⟩ → ¬ M b) : Ins w' a n ks := by
  rcases hm with rfl | hm
  · exact ⟨h.1, .inl rfl⟩
  · exact ins_turn h ht hm

/-- The cached sectors, in rising order; how many of them lie ahead of a sector. -/
def cN (S : Nat) (C : Nat → Option (List Int)) : List Nat := (List.range S).filter fun s => (C s).isSome
def rank (C : Nat → Option (List Int)) (s : Nat) : Nat := (cN s C).length
theorem cN_succ (S : Nat) (C : Nat → Option (List Int)) : cN (S + 1) C = cN S C ++ if (C S).isSome then [S] else [] := by
  unfold cN
  rw [List.range_succ, List.filter_append]
  congr 1
  simp [List.filter_cons]
theorem rank_succ (C : Nat → Option (List Int)) (s : Nat) : rank C (s + 1) = rank C s + if (C s).isSome then 1 else 0 := by
  unfold rank
  rw [cN_succ, List.length_append]
  split <;> rfl
theorem rank_mono (C : Nat → Option (List Int)) {s t : Nat} (h : s ≤ t) : rank C s ≤ rank C t := by
  induction t with
  | zero => rw [Nat.le_zero.1 h]; exact Nat.le_refl _
  | succ n ih =>
    rw [rank_succ]
    by_cases e : s = n + 1
    · rw [e, rank_succ]; exact Nat.le_refl _
    · have := ih (by omega); omega
theorem rank_le (C : Nat → Option (List Int)) (s : Nat) : rank C s ≤ s := by
  induction s with
  | zero => exact Nat.le_refl _
  | succ n ih => rw [rank_succ]; split <;> omega
theorem rank_lt {S : Nat} {C : Nat → Option (List Int)} {s : Nat} (hs : s < S) (h : (C s).isSome = true) : rank C s < rank C S := by
  have h1 := rank_mono C (show s + 1 ≤ S from hs)
  rw [rank_succ, h] at h1
  simp at h1
  omega
theorem cN_rank {S : Nat} {C : Nat → Option (List Int)} {s : Nat} (hs : s < S) (h : (C s).isSome = true) : (cN S C).getD (rank C s) 0 = s := by
  induction S with
  | zero => omega
  | succ n ih =>
    rw [cN_succ]
    by_cases e : s = n
    · subst e
      rw [h]
      simp [List.getD, rank]
    · have hlt : rank C s < (cN n C).length := rank_lt (by omega) h
      have := ih (by omega)
      unfold List.getD at this ⊢
      rw [List.getElem?_append_left hlt]
      exact this
theorem cN_at {S : Nat} {C : Nat → Option (List Int)} {j : Nat} (hj : j < rank C S) : ∃ s, s < S ∧ (C s).isSome = true ∧ rank C s = j := by
  induction S with
  | zero => exact absurd hj (by simp [rank, cN])
  | succ n ih =>
    rw [rank_succ] at hj
    by_cases h : j < rank C n
    · obtain ⟨s, hs, h1, h2⟩ := ih h
      exact ⟨s, by omega, h1, h2⟩
    · split at hj
      · next hc => exact ⟨n, by omega, hc, by omega⟩
      · omega
theorem cN_sorted (S : Nat) (C : Nat → Option (List Int)) : (cN S C).Pairwise (· < ·) := List.Pairwise.filter _ List.pairwise_lt_range
theorem mem_cN {S : Nat} {C : Nat → Option (List Int)} {s : Nat} : s ∈ cN S C ↔ s < S ∧ (C s).isSome = true := by simp [cN]

/-- As numbers. -/
def cZ (S : Nat) (C : Nat → Option (List Int)) : List Int := (cN S C).map fun (s : Nat) => (s : Int)
theorem cZ_len (S : Nat) (C : Nat → Option (List Int)) : (cZ S C).length = rank C S := by simp [cZ, rank]
theorem cZ_rank {S : Nat} {C : Nat → Option (List Int)} {s : Nat} (hs : s < S) (h : (C s).isSome = true) : (cZ S C).getD (rank C s) 0 = (s : Int) := by
  have h1 := cN_rank hs h
  have h2 : rank C s < (cN S C).length := rank_lt hs h
  unfold cZ
  simp [List.getD, h2] at h1 ⊢
  rw [h1]
theorem cZ_sorted (S : Nat) (C : Nat → Option (List Int)) : (cZ S C).Pairwise fun x y => decide (x ≤ y) = true := by
  unfold cZ
  rw [List.pairwise_map]
  exact (cN_sorted S C).imp fun h => by simp; omega
theorem cZ_nodup (S : Nat) (C : Nat → Option (List Int)) : (cZ S C).Nodup := by
  unfold cZ List.Nodup
  rw [List.pairwise_map]
  exact (cN_sorted S C).imp fun h => by omega

theorem CacheD.perm {w : World} {M : Nat → Prop} {S mb n : Nat} {C : Nat → Option (List Int)} {D : DataW Unit} (h : CacheD w M S mb C n D) : (cZ S C).Perm (intKeys D) := by
  obtain ⟨es, hD, hpw, _⟩ := h.own.entries law3
  obtain ⟨es', hD', hko⟩ := h.own.keysOf
  obtain rfl : es = es' := by rw [hD] at hD'; simpa using hD'
  subst hD
  refine perm_intKeys hpw (fun p hp => by obtain ⟨v, hv⟩ := hko p hp; obtain ⟨x, _, hx, _⟩ := Maps.keyOf_i64 Try.underlying3 hv; exact ⟨x, hx⟩) (cZ_nodup S C) fun x => ?_
  constructor
  · intro hx
    obtain ⟨s, hs, rfl⟩ := List.mem_map.1 hx
    obtain ⟨h1, h2⟩ := mem_cN.1 hs
    exact (h.has s h1).trans h2
  · intro hx
    obtain ⟨s, hs, e⟩ := h.keys _ hx
    obtain rfl : x = (s : Int) := by simpa [keyI] using e
    exact List.mem_map.2 ⟨s, mem_cN.2 ⟨hs, (h.has s hs).symm.trans hx⟩, rfl⟩
theorem CacheD.sorted {w : World} {M : Nat → Prop} {S mb n : Nat} {C : Nat → Option (List Int)} {D : DataW Unit} (h : CacheD w M S mb C n D) {ss : List Int} (hs : ss.Perm (intKeys D)) : (ss.mergeSort fun x y => decide (x ≤ y)) = cZ S C := by
  have e := mergeSort_of_perm_i (hs.trans h.perm.symm)
  exact e.trans (List.mergeSort_of_pairwise (cZ_sorted S C))
theorem CacheD.size {w : World} {M : Nat → Prop} {S mb n : Nat} {C : Nat → Option (List Int)} {D : DataW Unit} (h : CacheD w M S mb C n D) : Maps.size D ≤ S := by
  have e : Maps.size D = (intKeys D).length := by
    obtain ⟨es, rfl⟩ := h.own.isMap
    simp [Maps.size, intKeys]
  rw [e, ← h.perm.length_eq, cZ_len]
  exact rank_le C S

theorem CacheD.tight {w : World} {M : Nat → Prop} {S mb n : Nat} {C : Nat → Option (List Int)} {D : DataW Unit} (h : CacheD w M S mb C n D) : CacheD w M S mb C S D := by
  have hs := h.size
  obtain ⟨es, clock, hb, F, _, hD⟩ := h.own
  refine ⟨⟨es, clock, hb, F, ?_, hD⟩, h.has, h.lies, h.keys⟩
  rw [hD] at hs
  simpa [Maps.size, length_sorted] using hs

/-- What 'slices.Sorted(maps.Keys(m))' answers. -/
def KeysRet (w0 : World) (ks : List Int) (n : Nat) (e : Ending) (w' : World) : Prop := ∃ a c, e = .returned (.slice a n c) ∧ Ins w' a n ks ∧ (∀ b off, a = some ⟨b, off, none⟩ → w0.heap.size ≤ b) ∧ Below w0.heap.size w0 w'

end Go.Proofs.Ytciddoeeiamndaa
