/-
  A disk's bytes by sectors: plain lists.
-/
import Derived.Test.YtciddoeeiamndaaRet
namespace Go.Proofs.Ytciddoeeiamndaa
open Go.RowKit

/-- The sector s of a disk's bytes. -/
def sec (l : List Int) (s : Nat) : List Int := (l.drop (s * 64)).take 64
/-- The disk's bytes with zs in sector s. -/
def upd (l : List Int) (s : Nat) (zs : List Int) : List Int := splice l (s * 64) zs

theorem upd_len {l zs : List Int} {s S : Nat} (hl : l.length = S * 64) (hs : s < S) (hz : zs.length = 64) : (upd l s zs).length = S * 64 := by
  unfold upd
  rw [length_splice _ _ _ (by omega), hl]
theorem sec_len {l : List Int} {s S : Nat} (hl : l.length = S * 64) (hs : s < S) : (sec l s).length = 64 := by
  simp [sec, hl]; omega
theorem byt_sec {l : List Int} {s i : Nat} (hi : i < 64) : byt (sec l s) i = byt l (s * 64 + i) := by
  unfold sec
  rw [byt_take hi, byt_drop]
theorem byt_upd {l zs : List Int} {s S : Nat} (hl : l.length = S * 64) (hs : s < S) (hz : zs.length = 64) (j : Nat) : byt (upd l s zs) j = if s * 64 ≤ j ∧ j < s * 64 + 64 then byt zs (j - s * 64) else byt l j := by
  have ht : (l.take (s * 64)).length = s * 64 := by simp; omega
  unfold upd splice
  split
  · next h =>
    obtain ⟨i, rfl⟩ : ∃ i, j = s * 64 + i := ⟨j - s * 64, by omega⟩
    have h1 := byt_app_right (x := l.take (s * 64)) (y := zs ++ l.drop (s * 64 + zs.length)) i
    rw [ht] at h1
    rw [h1, byt_app_left (by omega)]
    congr 1
    omega
  · next h =>
    by_cases hj : j < s * 64
    · rw [byt_app_left (by omega), byt_take hj]
    · obtain ⟨i, rfl⟩ : ∃ i, j = s * 64 + (64 + i) := ⟨j - s * 64 - 64, by omega⟩
      have h1 := byt_app_right (x := l.take (s * 64)) (y := zs ++ l.drop (s * 64 + zs.length)) (64 + i)
      have h2 := byt_app_right (x := zs) (y := l.drop (s * 64 + zs.length)) i
      rw [ht] at h1
      rw [hz] at h2 h1
      rw [hz, h1, h2, byt_drop]
      congr 1
      omega
theorem sec_same {l zs : List Int} {s S : Nat} (hl : l.length = S * 64) (hs : s < S) (hz : zs.length = 64) : sec (upd l s zs) s = zs := by
  refine byt_ext (by rw [sec_len (upd_len hl hs hz) hs, hz]) fun i hi => ?_
  rw [sec_len (upd_len hl hs hz) hs] at hi
  rw [byt_sec hi, byt_upd hl hs hz, if_pos (by omega)]
  congr 1
  omega
theorem sec_other {l zs : List Int} {s t S : Nat} (hl : l.length = S * 64) (hs : s < S) (ht : t < S) (hz : zs.length = 64) (hne : t ≠ s) : sec (upd l s zs) t = sec l t := by
  refine byt_ext (by rw [sec_len (upd_len hl hs hz) ht, sec_len hl ht]) fun i hi => ?_
  rw [sec_len (upd_len hl hs hz) ht] at hi
  rw [byt_sec hi, byt_sec hi, byt_upd hl hs hz, if_neg (by omega)]
theorem sec_ext {l m : List Int} {S : Nat} (hl : l.length = S * 64) (hm : m.length = S * 64) (h : ∀ s, s < S → sec l s = sec m s) : l = m := by
  refine byt_ext (by rw [hl, hm]) fun i hi => ?_
  have := h (i / 64) (by omega)
  have h2 := congrArg (fun x => byt x (i % 64)) this
  simp only [byt_sec (Nat.mod_lt i (by omega : 0 < 64))] at h2
  rwa [Nat.mul_comm, Nat.div_add_mod] at h2
theorem AllB.sec {l : List Int} (h : AllB l) (s : Nat) : AllB (sec l s) := (h.drop _).take _
theorem AllB.upd {l zs : List Int} (h : AllB l) (hz : AllB zs) (s : Nat) : AllB (upd l s zs) := (h.take _).app (hz.app (h.drop _))

/-- A disk's bytes, told by sectors. -/
def joinS (S : Nat) (f : Nat → List Int) : List Int := (List.range S).flatMap f
theorem joinS_succ (S : Nat) (f : Nat → List Int) : joinS (S + 1) f = joinS S f ++ f S := by
  simp [joinS, List.range_succ]
theorem joinS_len {S : Nat} {f : Nat → List Int} (h : ∀ s, s < S → (f s).length = 64) : (joinS S f).length = S * 64 := by
  induction S with
  | zero => rfl
  | succ n ih => rw [joinS_succ, List.length_append, ih (fun s hs => h s (by omega)), h n (by omega)]; omega
theorem sec_join {S : Nat} {f : Nat → List Int} (h : ∀ s, s < S → (f s).length = 64) {s : Nat} (hs : s < S) : sec (joinS S f) s = f s := by
  induction S with
  | zero => omega
  | succ n ih =>
    have hl := joinS_len (S := n) (f := f) (fun s hs => h s (by omega))
    rw [joinS_succ]
    by_cases e : s = n
    · subst e
      unfold sec
      rw [List.drop_append_of_le_length (by omega), List.drop_eq_nil_of_le (by omega), List.nil_append, List.take_of_length_le (by rw [h s (by omega)]; exact Nat.le_refl _)]
    · have hlt : s < n := by omega
      rw [← ih (fun s hs => h s (by omega)) hlt]
      unfold sec
      rw [List.drop_append_of_le_length (by omega), List.take_append_of_le_length (by simp; omega)]
theorem joinS_small {S : Nat} {f : Nat → List Int} (h : ∀ s, s < S → AllB (f s)) : AllB (joinS S f) := by
  intro z hz
  obtain ⟨s, hs, hzs⟩ := List.mem_flatMap.1 hz
  exact h s (List.mem_range.1 hs) z hzs

/-- The bytes of a sector, as a slice. -/
theorem Blk.sec {w : World} {g : Nat} {l : List Int} {S : Nat} (h : Blk w g l) (hl : l.length = S * 64) (hs : AllB l) {s : Nat} (hlt : s < S) : Bys w (some ⟨g, s * 64, none⟩) 64 (sec l s) := by
  have := ((h.from hs (s * 64)).front (k := 64) (by omega))
  exact this

theorem cells_at {w : World} {b off n : Nat} {zs : List Int} (h : Bys w (some ⟨b, off, none⟩) n zs) : ∀ j v, (zs.map (Value.int .u8))[j]? = some v → w.cell? ((⟨b, off, none⟩ : Addr).add j) = some v := by
  intro j v hj
  have hjx : j < zs.length := by
    rcases Nat.lt_or_ge j zs.length with h | h
    · exact h
    · rw [List.getElem?_eq_none (by simpa using h)] at hj; cases hj
  have hv : v = .int .u8 (byt zs j) := by
    rw [List.getElem?_map] at hj
    simp [List.getElem?_eq_getElem hjx] at hj
    simp [byt, List.getD, hjx, hj]
  rcases h.place with h0 | ⟨b', off', e, _, hcell⟩
  · have := h.len; omega
  · cases e
    rw [hv, show (⟨b, off, none⟩ : Addr).add j = ⟨b, off + j, none⟩ by unfold Addr.add; split <;> simp_all]
    exact hcell j (by rw [← h.len]; exact hjx)

theorem turn_setRow (w : World) (g : Nat) (cs : Array Value) : Turn (· = g) w (w.setRow g cs) :=
  ⟨rfl, rfl, rfl, by simp [World.setRow], fun k _ hn => setRow_other w g k cs hn⟩
theorem ints_upd (l zs : List Int) (s : Nat) : ((ints l).toList.take (s * 64) ++ (zs.map (Value.int .u8) ++ (ints l).toList.drop (s * 64 + (zs.map (Value.int .u8)).length))).toArray = ints (upd l s zs) := by
  apply Array.ext'
  simp [upd, splice, ints]

/-- 'copy' of 64 bytes onto a sector. -/
theorem wpList_cps {w : World} {ops : Array Oper} {rest : List Oper} {o : Oper} {a : Act} {Q : Exit → Act → World → Prop}
    (hgd : o.guard = none) (d x : Operand) (ho : o.op = .call { callee := .builtin .copy, args := #[d, x], argTypes := #[37, 37] })
    (g s S c b off c2 : Nat) (hd : a.eval d = .slice (some ⟨g, s * 64, none⟩) 64 c) (hs : a.eval x = .slice (some ⟨b, off, none⟩) 64 c2) (l zs : List Int) (hg : Blk w g l) (hl : l.length = S * 64) (hlt : s < S) (hx : Bys w (some ⟨b, off, none⟩) 64 zs)
    (hK : ∀ w', Blk w' g (upd l s zs) → Turn (· = g) w w' → wpList Try.prog ops Q rest (a.put o.dst (goInt 64)) w') :
    wpList Try.prog ops Q (o :: rest) a w := by
  have hz : (zs.map (Value.int .u8)).length = 64 := by rw [List.length_map, hx.len]
  refine wpList_copy_own hgd d x 37 37 ho 5 Try.underlying37 (by kernel_rfl) g (s * 64) 64 c ⟨b, off, none⟩ 64 c2 hd hs (ints l) 5 hg.row (zs.map (Value.int .u8)) (by rw [hz]; rfl) (cells_at hx) (by simp [ints, hl, hx.len]; omega) ?_ ?_
  · intro v hv
    obtain ⟨z, _, rfl⟩ := List.mem_map.1 hv
    rfl
  · rw [ints_upd, hz]
    exact hK _ ⟨setRow_heap w g _ _ _ _ hg.row⟩ (turn_setRow w g _)

/-- 'copy' of whatever bytes onto a whole block. -/
theorem wpList_cpl {w : World} {ops : Array Oper} {rest : List Oper} {o : Oper} {a : Act} {Q : Exit → Act → World → Prop}
    (hgd : o.guard = none) (d x : Operand) (ho : o.op = .call { callee := .builtin .copy, args := #[d, x], argTypes := #[37, 37] })
    (g m c n c2 : Nat) (ad : Option Addr) (hd : a.eval d = .slice (some ⟨g, 0, none⟩) m c) (hs : a.eval x = .slice ad n c2) (l zs : List Int) (hg : Blk w g l) (hl : l.length = m) (hx : Bys w ad n zs) (k : Nat) (hk : Nat.min n m = k)
    (hK : ∀ w', Blk w' g (zs.take m ++ l.drop n) → Turn (· = g) w w' → wpList Try.prog ops Q rest (a.put o.dst (goInt k)) w') :
    wpList Try.prog ops Q (o :: rest) a w := by
  subst hk
  have hz : ((zs.take m).map (Value.int .u8)).length = Nat.min n m := by simp [hx.len, Nat.min_comm]
  by_cases h0 : Nat.min n m = 0
  · have e : zs.take m ++ l.drop n = l := by
      have h1 : zs.take m = [] := List.eq_nil_of_length_eq_zero (by rw [← List.length_map (f := Value.int .u8), hz, h0])
      rw [h1, List.nil_append]
      rcases (by have h9 : min n m = 0 := h0; omega : n = 0 ∨ m = 0) with h | h
      · rw [h, List.drop_zero]
      · rw [List.eq_nil_of_length_eq_zero (hl.trans h), List.drop_nil]
    refine wpList_copy_nothing hgd d x 37 37 ho 5 Try.underlying37 (by kernel_rfl) _ _ _ _ _ _ hd hs h0 ?_
    have := hK w (by rw [e]; exact hg) (Turn.refl _ _)
    rwa [h0] at this
  · have hpos : 0 < n := by have h9 : ¬ min n m = 0 := h0; omega
    rcases hx.place with h | ⟨b, off, rfl, hlt, hcell⟩
    · omega
    have hsrc := cells_at hx
    refine wpList_copy_own hgd d x 37 37 ho 5 Try.underlying37 (by kernel_rfl) g 0 m c ⟨b, off, none⟩ n c2 hd hs (ints l) 5 hg.row ((zs.take m).map (Value.int .u8)) hz ?_ ?_ ?_ ?_
    · intro j v hj
      refine hsrc j v ?_
      rw [List.map_take, List.getElem?_take] at hj
      split at hj
      · exact hj
      · cases hj
    · rw [hz]; simp [ints, hl]; exact Nat.min_le_right _ _
    · intro v hv
      obtain ⟨z, _, rfl⟩ := List.mem_map.1 hv
      rfl
    · rw [hz]
      refine hK _ ⟨?_⟩ (turn_setRow w g _)
      rw [setRow_heap w g _ _ _ _ hg.row]
      congr 2
      apply Array.ext'
      simp only [ints, List.take_zero, List.nil_append, Nat.zero_add, List.map_append, List.append_cancel_left_eq]
      rw [List.map_drop]
      by_cases hnm : n ≤ m
      · rw [show Nat.min n m = n from Nat.min_eq_left hnm]
      · rw [show Nat.min n m = m from Nat.min_eq_right (by omega), List.drop_eq_nil_of_le (by simp; omega), List.drop_eq_nil_of_le (by simp; omega)]

/-- 'clear' of a block's bytes from place k on. -/
theorem run_clear_blk {w : World} (g k r c : Nat) (l : List Int) (hg : Blk w g l) (hl : l.length = k + r) (hr : 0 < r) :
    ∃ w', (∀ ty, (Builtin.clear_ #[37] ty #[.slice (some ⟨g, k, none⟩) r c]).run Try.prog w = .ok (.tuple #[]) w') ∧ Blk w' g (l.take k ++ List.replicate r 0) ∧ Turn (· = g) w w' := by
  have hz : ∀ w, (zeroValue 5).run Try.prog w = .ok (.int .u8 0) w := fun w => by kernel_rfl
  have hzc : (Builtin.zeroCells (Value.int .u8 0).cells r).toList = List.replicate r (Value.int .u8 0) := by
    rw [show (Value.int .u8 0).cells = #[Value.int .u8 0] from rfl]
    simp [Builtin.zeroCells]
    apply List.ext_getElem
    · simp
    · intro i h1 h2
      simp [Nat.mod_one]
  have hst := run_storeCells_at Try.prog g k 5 (List.replicate r (Value.int .u8 0)) 0 (ints l) w hg.row (by simp [ints, hl]) (by intro v hv; rw [List.eq_of_mem_replicate hv]; rfl)
  obtain ⟨m, rfl⟩ : ∃ m, r = m + 1 := ⟨r - 1, by omega⟩
  refine ⟨w.setRow g (ints (l.take k ++ List.replicate (m + 1) 0)), fun ty => ?_, ⟨setRow_heap w g _ _ _ _ hg.row⟩, turn_setRow w g _⟩
  have e : (((ints l).toList.take (k + 0) ++ List.replicate (m + 1) (Value.int .u8 0)) ++ (ints l).toList.drop (k + 0 + (List.replicate (m + 1) (Value.int .u8 0)).length)).toArray = ints (l.take k ++ List.replicate (m + 1) 0) := by
    apply Array.ext'
    simp only [ints, List.map_append, List.map_replicate, Nat.add_zero, List.length_replicate, List.map_take]
    rw [List.drop_eq_nil_of_le (by simp; omega), List.append_nil]
  rw [e] at hst
  simp [Builtin.clear_, run_underlying Try.underlying37, hz, hzc, hst]
theorem run_clear_none (w : World) (ad : Option Addr) (c : Nat) : ∀ ty, (Builtin.clear_ #[37] ty #[.slice ad 0 c]).run Try.prog w = .ok (.tuple #[]) w := fun ty => by
  cases ad <;> simp [Builtin.clear_, run_underlying Try.underlying37]

end Go.Proofs.Ytciddoeeiamndaa
