/-
  The small functions of the device: their contracts.
-/
import Derived.Test.YtegmeoghonolcaaGreatCs
import Derived.Lib.SliceRun
import Derived.Test.YtegmeoghonolcaaGreatHb
import Derived.Maps.OwnSet
import Derived.Maps.Ext
import Derived.Maps.RangeWalk
import Derived.Lib.SlKeysI
import Derived.Deep.AppendLies
set_option linter.unusedSimpArgs false
set_option linter.unusedVariables false
namespace Go.Proofs.YtegmeoghonolcaaGreat
open Go.RowKit

/-- 'bytes.Clone' of a slice that is not nil. -/
theorem clone_any (b off la ca : Nat) (x : List Int) (w : World) (hx : Bys w (some ⟨b, off, none⟩) la x) (hla : la ≤ 1000000000000) :
    Calls Tryz.prog 125 #[.slice (some ⟨b, off, none⟩) la ca] w fun e w' => ∃ v, e = .returned v ∧ Own w' w.heap.size v la x ∧ Below w.heap.size w w' := by
  have hnil : ∀ w, (binOp .eql 42 (.slice (some ⟨b, off, none⟩) la ca) (.slice none 0 0)).run Tryz.prog w = .ok (.bool false) w := fun w =>
    Lib.run_eql_slice_nil w 42 5 (some ⟨b, off, none⟩) la ca 0 0 Tryz.underlying42
  go_enter Tryz.func125, Tryz.ntmps125
  go_wp2_with (at_builtin; go_must (refine wpList_ap rfl (.tmp 5) (.tmp 6) rfl w.heap.size _ 0 [] rfl (own_none w w.heap.size (Nat.le_refl _)) (some ⟨b, off, none⟩) la ca x rfl (hx.below (Nat.le_refl _) ((Below.refl _ _).alloc (Nat.le_refl _) _)) (fun h => by cases h) (by omega) (by simp) w ((Below.refl _ _).alloc (Nat.le_refl _) _) ?_); intro v w1 hown1 hb1)
  go_ret
  exact ⟨_, rfl, by simpa using hown1, hb1⟩

theorem off_any (p : Nat) (x : Bool) (w : World) (c2 : w.cell? ⟨p, 2, none⟩ = some (.bool x)) :
    Calls Tryz.prog 116 #[.pointer (some ⟨p, 0, none⟩)] w fun e w' => e = .returned (.bool x) ∧ w = w' := by
  go_enter Tryz.func116, Tryz.ntmps116
  go_wp2
  go_ret
  exact ⟨rfl, rfl⟩

theorem hasDisk_any (p db n c : Nat) (i : Int) (w : World) (c0 : w.cell? ⟨p, 0, none⟩ = some (.slice (some ⟨db, 0, none⟩) n c)) :
    Calls Tryz.prog 29 #[.pointer (some ⟨p, 0, none⟩), .int .i64 i] w fun e w' => e = .returned (.bool (decide (0 ≤ i ∧ i < n))) ∧ w = w' := by
  by_cases h0 : 0 ≤ i
  · by_cases h1 : i < n
    · have hd : decide (0 ≤ i ∧ i < n) = true := by simp; omega
      rw [hd]
      clear hd
      go_enter Tryz.func29, Tryz.ntmps29
      go_wp2
      go_ret
      exact ⟨rfl, rfl⟩
    · have hd : decide (0 ≤ i ∧ i < n) = false := by simp; omega
      rw [hd]
      clear hd
      go_enter Tryz.func29, Tryz.ntmps29
      go_wp2
      go_ret
      exact ⟨rfl, rfl⟩
  · have hd : decide (0 ≤ i ∧ i < n) = false := by simp; omega
    rw [hd]
    clear hd
    go_enter Tryz.func29, Tryz.ntmps29
    go_wp2
    go_ret
    exact ⟨rfl, rfl⟩

theorem lastingOf_any (db o lb s S : Nat) (w : World) (c0 : w.cell? ⟨db, o, none⟩ = some (.slice (some ⟨lb, 0, none⟩) (S * 64) (S * 64))) (hs : s < S) (hS : S ≤ 4096) :
    Calls Tryz.prog 115 #[.pointer (some ⟨db, o, none⟩), .int .i64 s] w fun e w' => e = .returned (.slice (some ⟨lb, s * 64, none⟩) 64 (S * 64 - s * 64)) ∧ w = w' := by
  go_enter Tryz.func115, Tryz.ntmps115
  go_wp2
  go_ret
  refine ⟨?_, rfl⟩
  show Ending.returned (Value.slice _ (s * 64 + 64 - s * 64) _) = _
  rw [Nat.add_sub_cancel_left]

/-- Is there such a sector of such a disk? -/
def hasB (n S : Nat) (i k : Int) : Bool := decide ((0 ≤ i ∧ i < n) ∧ 0 ≤ k ∧ k < S)
theorem hasB_yes {n S : Nat} {i k : Int} (h0 : 0 ≤ i) (h1 : i < n) (h2 : 0 ≤ k) (h3 : k < S) : hasB n S i k = true := decide_eq_true ⟨⟨h0, h1⟩, h2, h3⟩
theorem hasB_iff {n S : Nat} {i k : Int} : hasB n S i k = true ↔ (0 ≤ i ∧ i < n) ∧ 0 ≤ k ∧ k < S := by unfold hasB; rw [decide_eq_true_eq]

theorem hasDisk_yes (p db n c : Nat) (i : Int) (w : World) (c0 : w.cell? ⟨p, 0, none⟩ = some (.slice (some ⟨db, 0, none⟩) n c)) (h0 : 0 ≤ i) (h1 : i < n) :
    Calls Tryz.prog 29 #[.pointer (some ⟨p, 0, none⟩), .int .i64 i] w fun e w' => e = .returned (.bool true) ∧ w = w' := by
  have := hasDisk_any p db n c i w c0
  rwa [show decide (0 ≤ i ∧ i < n) = true by simp; omega] at this
theorem hasDisk_no (p db n c : Nat) (i : Int) (w : World) (c0 : w.cell? ⟨p, 0, none⟩ = some (.slice (some ⟨db, 0, none⟩) n c)) (h : ¬ (0 ≤ i ∧ i < n)) :
    Calls Tryz.prog 29 #[.pointer (some ⟨p, 0, none⟩), .int .i64 i] w fun e w' => e = .returned (.bool false) ∧ w = w' := by
  have := hasDisk_any p db n c i w c0
  rwa [show decide (0 ≤ i ∧ i < n) = false by simp; omega] at this

theorem hasSector_yes (p db n c S : Nat) (i k : Int) (w : World) (c0 : w.cell? ⟨p, 0, none⟩ = some (.slice (some ⟨db, 0, none⟩) n c)) (c1 : w.cell? ⟨p, 1, none⟩ = some (.int .i64 S)) (h : hasB n S i k = true) :
    Calls Tryz.prog 165 #[.pointer (some ⟨p, 0, none⟩), .int .i64 i, .int .i64 k] w fun e w' => e = .returned (.bool true) ∧ w = w' := by
  obtain ⟨⟨h0, h1⟩, h2, h3⟩ := hasB_iff.1 h
  clear h
  go_enter Tryz.func165, Tryz.ntmps165
  go_wp2_with (go_at_call 29; refine (hasDisk_yes p db n c i w c0 h0 h1).mono ?_; rintro e w' ⟨rfl, rfl⟩)
  go_ret
  exact ⟨rfl, rfl⟩
theorem hasSector_no (p db n c S : Nat) (i k : Int) (w : World) (c0 : w.cell? ⟨p, 0, none⟩ = some (.slice (some ⟨db, 0, none⟩) n c)) (c1 : w.cell? ⟨p, 1, none⟩ = some (.int .i64 S)) (h : hasB n S i k = false) :
    Calls Tryz.prog 165 #[.pointer (some ⟨p, 0, none⟩), .int .i64 i, .int .i64 k] w fun e w' => e = .returned (.bool false) ∧ w = w' := by
  by_cases hd : 0 ≤ i ∧ i < n
  · obtain ⟨h0, h1⟩ := hd
    by_cases h2 : 0 ≤ k
    · have h3 : ¬ k < S := fun h3 => by rw [hasB_yes h0 h1 h2 h3] at h; cases h
      have h4 : decide (k < (S : Int)) = false := decide_eq_false h3
      clear h
      go_enter Tryz.func165, Tryz.ntmps165
      go_wp2_with (go_at_call 29; refine (hasDisk_yes p db n c i w c0 h0 h1).mono ?_; rintro e w' ⟨rfl, rfl⟩)
      go_ret
      exact ⟨rfl, rfl⟩
    · clear h
      go_enter Tryz.func165, Tryz.ntmps165
      go_wp2_with (go_at_call 29; refine (hasDisk_yes p db n c i w c0 h0 h1).mono ?_; rintro e w' ⟨rfl, rfl⟩)
      go_ret
      exact ⟨rfl, rfl⟩
  · clear h
    have hc := hasDisk_no p db n c i w c0 hd
    clear hd
    go_enter Tryz.func165, Tryz.ntmps165
    go_wp2_with (go_at_call 29; refine hc.mono ?_; rintro e w' ⟨rfl, rfl⟩)
    go_ret
    exact ⟨rfl, rfl⟩

/-- 'called' of a disk: what its two cells hold behind it. -/
theorem called_any (db o : Nat) (x : Bool) (n : Int) (w : World) (c2 : w.cell? ⟨db, o + 2, none⟩ = some (.bool x)) (c3 : w.cell? ⟨db, o + 3, none⟩ = some (.int .i64 n)) (f2 : w.frozen? ⟨db, o + 2, none⟩ = false) (f3 : w.frozen? ⟨db, o + 3, none⟩ = false) (hn : n ≤ 9223372036854775807) :
    Calls Tryz.prog 114 #[.pointer (some ⟨db, o, none⟩)] w fun e w' => e = .returned (.tuple #[]) ∧
      w' = if n = 0 then w.setCell ⟨db, o + 2, none⟩ (.bool true) else if 0 < n then w.setCell ⟨db, o + 3, none⟩ (.int .i64 (n - 1)) else w := by
  by_cases h0 : n = 0
  · subst h0
    go_enter Tryz.func114, Tryz.ntmps114
    go_wp2
    go_end0
    exact ⟨rfl, rfl⟩
  · by_cases h1 : 0 < n
    all_goals
      have hne : (n == 0) = false := by simpa using h0
      go_enter Tryz.func114, Tryz.ntmps114
      go_wp2
      go_end0
      exact ⟨rfl, by first | rw [if_pos h1] | rw [if_neg h1] | rfl⟩

/-- A slice of numbers. -/
def Ins (w : World) (a : Option Addr) (n : Nat) (ks : List Int) : Prop := ks.length = n ∧ (n = 0 ∨ ∃ b off, a = some ⟨b, off, none⟩ ∧ b < w.heap.size ∧ ∀ i, i < n → w.cell? ⟨b, off + i, none⟩ = some (.int .i64 (ks.getD i 0)))
end Go.Proofs.YtegmeoghonolcaaGreat

/-
  A disk's bytes by sectors: plain lists.
-/
namespace Go.Proofs.YtegmeoghonolcaaGreat
open Go.RowKit

/-- The sector s of a disk's bytes. -/
def sec (l : List Int) (s : Nat) : List Int := (l.drop (s * 64)).take 64
/-- The disk's bytes with zs in sector s. -/
def upd (l : List Int) (s : Nat) (zs : List Int) : List Int := splice l (s * 64) zs

theorem upd_len {l zs : List Int} {s S : Nat} (hl : l.length = S * 64) (hs : s < S) (hz : zs.length = 64) : (upd l s zs).length = S * 64 := by
  unfold upd
  rw [length_splice _ _ _ (by omega), hl]
theorem sec_len {l : List Int} {s S : Nat} (hl : l.length = S * 64) (hs : s < S) : (sec l s).length = 64 := by
  simp [sec, hl]; omega
theorem byt_sec {l : List Int} {s i : Nat} (hi : i < 64) : byt (sec l s) i = byt l (s * 64 + i) := by
  unfold sec
  rw [byt_take hi, byt_drop]
theorem byt_upd {l zs : List Int} {s S : Nat} (hl : l.length = S * 64) (hs : s < S) (hz : zs.length = 64) (j : Nat) : byt (upd l s zs) j = if s * 64 ≤ j ∧ j < s * 64 + 64 then byt zs (j - s * 64) else byt l j := by
  have ht : (l.take (s * 64)).length = s * 64 := by simp; omega
  unfold upd splice
  split
  · next h =>
    obtain ⟨i, rfl⟩ : ∃ i, j = s * 64 + i := ⟨j - s * 64, by omega⟩
    have h1 := byt_app_right (x := l.take (s * 64)) (y := zs ++ l.drop (s * 64 + zs.length)) i
    rw [ht] at h1
    rw [h1, byt_app_left (by omega)]
    congr 1
    omega
  · next h =>
    by_cases hj : j < s * 64
    · rw [byt_app_left (by omega), byt_take hj]
    · obtain ⟨i, rfl⟩ : ∃ i, j = s * 64 + (64 + i) := ⟨j - s * 64 - 64, by omega⟩
      have h1 := byt_app_right (x := l.take (s * 64)) (y := zs ++ l.drop (s * 64 + zs.length)) (64 + i)
      have h2 := byt_app_right (x := zs) (y := l.drop (s * 64 + zs.length)) i
      rw [ht] at h1
      rw [hz] at h2 h1
      rw [hz, h1, h2, byt_drop]
      congr 1
      omega
theorem sec_same {l zs : List Int} {s S : Nat} (hl : l.length = S * 64) (hs : s < S) (hz : zs.length = 64) : sec (upd l s zs) s = zs := by
  refine byt_ext (by rw [sec_len (upd_len hl hs hz) hs, hz]) fun i hi => ?_
  rw [sec_len (upd_len hl hs hz) hs] at hi
  rw [byt_sec hi, byt_upd hl hs hz, if_pos (by omega)]
  congr 1
  omega
theorem sec_other {l zs : List Int} {s t S : Nat} (hl : l.length = S * 64) (hs : s < S) (ht : t < S) (hz : zs.length = 64) (hne : t ≠ s) : sec (upd l s zs) t = sec l t := by
  refine byt_ext (by rw [sec_len (upd_len hl hs hz) ht, sec_len hl ht]) fun i hi => ?_
  rw [sec_len (upd_len hl hs hz) ht] at hi
  rw [byt_sec hi, byt_sec hi, byt_upd hl hs hz, if_neg (by omega)]
theorem sec_ext {l m : List Int} {S : Nat} (hl : l.length = S * 64) (hm : m.length = S * 64) (h : ∀ s, s < S → sec l s = sec m s) : l = m := by
  refine byt_ext (by rw [hl, hm]) fun i hi => ?_
  have := h (i / 64) (by omega)
  have h2 := congrArg (fun x => byt x (i % 64)) this
  simp only [byt_sec (Nat.mod_lt i (by omega : 0 < 64))] at h2
  rwa [Nat.mul_comm, Nat.div_add_mod] at h2
theorem AllB.sec {l : List Int} (h : AllB l) (s : Nat) : AllB (sec l s) := (h.drop _).take _
theorem AllB.upd {l zs : List Int} (h : AllB l) (hz : AllB zs) (s : Nat) : AllB (upd l s zs) := (h.take _).app (hz.app (h.drop _))

/-- A disk's bytes, told by sectors. -/
def joinS (S : Nat) (f : Nat → List Int) : List Int := (List.range S).flatMap f
theorem joinS_succ (S : Nat) (f : Nat → List Int) : joinS (S + 1) f = joinS S f ++ f S := by
  simp [joinS, List.range_succ]
theorem joinS_len {S : Nat} {f : Nat → List Int} (h : ∀ s, s < S → (f s).length = 64) : (joinS S f).length = S * 64 := by
  induction S with
  | zero => rfl
  | succ n ih => rw [joinS_succ, List.length_append, ih (fun s hs => h s (by omega)), h n (by omega)]; omega
theorem sec_join {S : Nat} {f : Nat → List Int} (h : ∀ s, s < S → (f s).length = 64) {s : Nat} (hs : s < S) : sec (joinS S f) s = f s := by
  induction S with
  | zero => omega
  | succ n ih =>
    have hl := joinS_len (S := n) (f := f) (fun s hs => h s (by omega))
    rw [joinS_succ]
    by_cases e : s = n
    · subst e
      unfold sec
      rw [List.drop_append_of_le_length (by omega), List.drop_eq_nil_of_le (by omega), List.nil_append, List.take_of_length_le (by rw [h s (by omega)]; exact Nat.le_refl _)]
    · have hlt : s < n := by omega
      rw [← ih (fun s hs => h s (by omega)) hlt]
      unfold sec
      rw [List.drop_append_of_le_length (by omega), List.take_append_of_le_length (by simp; omega)]
/-- The bytes of a sector, as a slice. -/
theorem Blk.sec {w : World} {g : Nat} {l : List Int} {S : Nat} (h : Blk w g l) (hl : l.length = S * 64) (hs : AllB l) {s : Nat} (hlt : s < S) : Bys w (some ⟨g, s * 64, none⟩) 64 (sec l s) := by
  have := ((h.from hs (s * 64)).front (k := 64) (by omega))
  exact this

theorem cells_at {w : World} {b off n : Nat} {zs : List Int} (h : Bys w (some ⟨b, off, none⟩) n zs) : ∀ j v, (zs.map (Value.int .u8))[j]? = some v → w.cell? ((⟨b, off, none⟩ : Addr).add j) = some v := by
  intro j v hj
  have hjx : j < zs.length := by
    rcases Nat.lt_or_ge j zs.length with h | h
    · exact h
    · rw [List.getElem?_eq_none (by simpa using h)] at hj; cases hj
  have hv : v = .int .u8 (byt zs j) := by
    rw [List.getElem?_map] at hj
    simp [List.getElem?_eq_getElem hjx] at hj
    simp [byt, List.getD, hjx, hj]
  rcases h.place with h0 | ⟨b', off', e, _, hcell⟩
  · have := h.len; omega
  · cases e
    rw [hv, show (⟨b, off, none⟩ : Addr).add j = ⟨b, off + j, none⟩ by unfold Addr.add; split <;> simp_all]
    exact hcell j (by rw [← h.len]; exact hjx)

theorem turn_setRow (w : World) (g : Nat) (cs : Array Value) : Turn (· = g) w (w.setRow g cs) :=
  ⟨rfl, rfl, rfl, by simp [World.setRow], fun k _ hn => setRow_other w g k cs hn⟩
theorem ints_upd (l zs : List Int) (s : Nat) : ((ints l).toList.take (s * 64) ++ (zs.map (Value.int .u8) ++ (ints l).toList.drop (s * 64 + (zs.map (Value.int .u8)).length))).toArray = ints (upd l s zs) := by
  apply Array.ext'
  simp [upd, splice, ints]

/-- 'copy' of 64 bytes onto a sector. -/
theorem wpList_cps {w : World} {ops : Array Oper} {rest : List Oper} {o : Oper} {a : Act} {Q : Exit → Act → World → Prop}
    (hgd : o.guard = none) (d x : Operand) (ho : o.op = .call { callee := .builtin .copy, args := #[d, x], argTypes := #[42, 42] })
    (g s S c b off c2 : Nat) (hd : a.eval d = .slice (some ⟨g, s * 64, none⟩) 64 c) (hs : a.eval x = .slice (some ⟨b, off, none⟩) 64 c2) (l zs : List Int) (hg : Blk w g l) (hl : l.length = S * 64) (hlt : s < S) (hx : Bys w (some ⟨b, off, none⟩) 64 zs)
    (hK : ∀ w', Blk w' g (upd l s zs) → Turn (· = g) w w' → wpList Tryz.prog ops Q rest (a.put o.dst (goInt 64)) w') :
    wpList Tryz.prog ops Q (o :: rest) a w := by
  have hz : (zs.map (Value.int .u8)).length = 64 := by rw [List.length_map, hx.len]
  refine wpList_copy_own hgd d x 42 42 ho 5 Tryz.underlying42 (by kernel_rfl) g (s * 64) 64 c ⟨b, off, none⟩ 64 c2 hd hs (ints l) 5 hg.row (zs.map (Value.int .u8)) (by rw [hz]; rfl) (cells_at hx) (by simp [ints, hl, hx.len]; omega) ?_ ?_
  · intro v hv
    obtain ⟨z, _, rfl⟩ := List.mem_map.1 hv
    rfl
  · rw [ints_upd, hz]
    exact hK _ ⟨setRow_heap w g _ _ _ _ hg.row⟩ (turn_setRow w g _)

end Go.Proofs.YtegmeoghonolcaaGreat

/-
  What a disk has cached: a map by sectors whose elements are slices of 64 bytes each.
-/
namespace Go.Proofs.YtegmeoghonolcaaGreat
open Go.RowKit Go.Maps Go.ChangeMaps Go.MapKept

/-- How an element reads: by the number of the block that it lies in. -/
def elemR : Value → Option (DataW Unit × List MemPlace)
  | .slice none 0 0 => some (.nil, [])
  | .slice (some ⟨g, 0, none⟩) 64 _ => some (.lit (.int .i64 (g : Int)), [])
  | _ => none
theorem elemR_zero : elemR (.slice none 0 0) = some (.nil, []) := rfl
theorem elemR_mk (g c : Nat) : elemR (.slice (some ⟨g, 0, none⟩) 64 c) = some (.lit (.int .i64 (g : Int)), []) := rfl
theorem elemR_inv {v : Value} {y : DataW Unit × List MemPlace} (h : elemR v = some y) : (v = .slice none 0 0 ∧ y = (.nil, [])) ∨ ∃ g c, v = .slice (some ⟨g, 0, none⟩) 64 c ∧ y = (.lit (.int .i64 (g : Int)), []) := by
  unfold elemR at h
  split at h
  · exact .inl ⟨rfl, by cases h; rfl⟩
  · exact .inr ⟨_, _, rfl, by cases h; rfl⟩
  · cases h
theorem elemR_lit {v : Value} {g : Nat} {ps : List MemPlace} (h : elemR v = some (.lit (.int .i64 (g : Int)), ps)) : ∃ c, v = .slice (some ⟨g, 0, none⟩) 64 c := by
  rcases elemR_inv h with ⟨_, e⟩ | ⟨g', c, rfl, e⟩
  · cases e
  · simp at e
    obtain ⟨e, _⟩ := e
    have : g = g' := by omega
    subst this
    exact ⟨c, rfl⟩
theorem elemR_nil {v : Value} {ps : List MemPlace} (h : elemR v = some (.nil, ps)) : v = .slice none 0 0 := by
  rcases elemR_inv h with ⟨rfl, _⟩ | ⟨g', c, rfl, e⟩
  · rfl
  · cases e

abbrev keyI (s : Nat) : Lit := .int .i64 (s : Int)
theorem keyI_inj {s t : Nat} (h : keyI s = keyI t) : s = t := by simp [keyI] at h; omega
theorem law3 : Keyed Tryz.prog 3 := int_keyed Tryz.underlying3
theorem zeroE (w : World) : (zeroValue 42).run Tryz.prog w = .ok (.slice none 0 0) w := by kernel_rfl
theorem isKeyI {s : Nat} (h : s < 4096) : WideAt.IsKeyLit (keyI s) := law3.key (keyOf_int_mk (P := Tryz.prog) Tryz.underlying3 (WalkArith.wf_i64 (by omega)))
theorem hkeyI {s : Nat} (h : s < 4096) : keyOf Tryz.prog 3 (.int .i64 (s : Int)) = some (keyI s) := keyOf_int_mk Tryz.underlying3 (WalkArith.wf_i64 (by omega))

/-- 'clear(m)'. -/
theorem run_clear_map {P : Program} {k t e : TypeId} {R : Value → Option (DataW Unit × List MemPlace)} {w : World} {b n : Nat} {D : DataW Unit} (h : w.ownsMap P k R b n D) (ht : P.underlying t = some (.map k e)) :
    ∃ w', (∀ ty, (Builtin.clear_ #[t] ty #[.map (some b)]).run P w = .ok (.tuple #[]) w') ∧ w'.ownsMap P k R b 0 (.map []) ∧ w.mapTurned w' b := by
  obtain ⟨es, clock, hb, F, hs, hD⟩ := h
  refine ⟨setBlock w b (.map #[] clock), fun ty => ?_, ⟨#[], clock, heap_setBlock_same hb _, ⟨by simp, stamped_empty clock, by simp⟩, Nat.le_refl _, rfl⟩, ⟨es, clock, _, _, hb, rfl⟩⟩
  simp [Builtin.clear_, run_underlying ht, MapKept.run_getObj_map hb, MapKept.run_setObj_map _ hb, Result.andThen]
  rfl

/-- What a disk has cached, the map's datum at hand. -/
structure CacheD (w : World) (M : Nat → Prop) (S mb : Nat) (C : Nat → Option (List Int)) (n : Nat) (D : DataW Unit) : Prop where
  own : w.ownsMap Tryz.prog 3 elemR mb n D
  has : ∀ s, s < S → Maps.has D (keyI s) = (C s).isSome
  lies : ∀ s zs, s < S → C s = some zs → ∃ g : Nat, ¬ M g ∧ D.atKey (keyI s) .nil = .lit (.int .i64 (g : Int)) ∧ Bys w (some ⟨g, 0, none⟩) 64 zs
  keys : ∀ kl, Maps.has D kl = true → ∃ s : Nat, s < S ∧ kl = keyI s
def CacheAt (w : World) (M : Nat → Prop) (S mb : Nat) (C : Nat → Option (List Int)) : Prop := ∃ n D, CacheD w M S mb C n D

theorem turn_map {w w' : World} {b : Nat} (h : w.mapTurned w' b) : Turn (· = b) w w' := Turn.of_grown h.grown rfl

theorem ownsMap_of_row {P : Program} {k : TypeId} {R : Value → Option (DataW Unit × List MemPlace)} {w w' : World} {b n : Nat} {D : DataW Unit} (h : w.ownsMap P k R b n D) (e : w'.heap[b]? = w.heap[b]?) : w'.ownsMap P k R b n D := by
  obtain ⟨es, clock, hb, r⟩ := h
  exact ⟨es, clock, e.trans hb, r⟩

theorem CacheD.turn {w w' : World} {M : Nat → Prop} {S mb : Nat} {C : Nat → Option (List Int)} {n : Nat} {D : DataW Unit} (h : CacheD w M S mb C n D) (ht : Turn M w w') (hb : w'.heap[mb]? = w.heap[mb]?) : CacheD w' M S mb C n D :=
  ⟨ownsMap_of_row h.own hb, h.has, fun s zs hs hc => by
    obtain ⟨g, hg, ha, hy⟩ := h.lies s zs hs hc
    exact ⟨g, hg, ha, bys_turn hy ht (fun b off e => by cases e; exact hg)⟩, h.keys⟩
theorem CacheAt.turn {w w' : World} {M : Nat → Prop} {S mb : Nat} {C : Nat → Option (List Int)} (h : CacheAt w M S mb C) (ht : Turn M w w') (hb : w'.heap[mb]? = w.heap[mb]?) : CacheAt w' M S mb C := by
  obtain ⟨n, D, h⟩ := h
  exact ⟨n, D, h.turn ht hb⟩
theorem CacheAt.lt {w : World} {M : Nat → Prop} {S mb : Nat} {C : Nat → Option (List Int)} (h : CacheAt w M S mb C) : mb < w.heap.size := by
  obtain ⟨n, D, h⟩ := h
  exact h.own.lt

/-- Nothing is cached. -/
def noneC : Nat → Option (List Int) := fun _ => none
theorem CacheAt.empty {w : World} {M : Nat → Prop} {S mb n : Nat} (h : w.ownsMap Tryz.prog 3 elemR mb n (.map [])) : CacheAt w M S mb noneC :=
  ⟨n, _, ⟨h, fun _ _ => rfl, (fun _ _ _ h => by cases h), (fun _ h => by cases h)⟩⟩

def putC (C : Nat → Option (List Int)) (s : Nat) (zs : List Int) : Nat → Option (List Int) := fun t => if t = s then some zs else C t
theorem CacheD.put {w w' : World} {M : Nat → Prop} {S mb s g : Nat} {C : Nat → Option (List Int)} {n n' : Nat} {D : DataW Unit} {zs : List Int} (h : CacheD w M S mb C n D) (hS : S ≤ 4096) (hs : s < S) (hg : ¬ M g) (hy : Bys w (some ⟨g, 0, none⟩) 64 zs)
    (ht : Turn M w w') (hown : w'.ownsMap Tryz.prog 3 elemR mb n' (D.put (keyI s) (.lit (.int .i64 (g : Int))))) : CacheAt w' M S mb (putC C s zs) := by
  have hm := h.own.isMap
  refine ⟨n', _, ⟨hown, fun t hts => ?_, fun t ys hts hc => ?_, fun kl hk => ?_⟩⟩
  · by_cases e : t = s
    · subst e
      rw [has_put_same hm (isKeyI (by omega))]
      simp [putC]
    · rw [has_put_other (fun x => e (keyI_inj x)), h.has t hts]
      simp [putC, e]
  · by_cases e : t = s
    · subst e
      refine ⟨g, hg, atKey_put_same hm (isKeyI (by omega)) _ _, ?_⟩
      have : zs = ys := by simpa [putC] using hc
      subst this
      exact bys_turn hy ht (fun b off e => by cases e; exact hg)
    · obtain ⟨g', hg', ha, hy'⟩ := h.lies t ys hts (by simpa [putC, e] using hc)
      exact ⟨g', hg', by rw [atKey_put_other (fun x => e (keyI_inj x)), ha], bys_turn hy' ht (fun b off e => by cases e; exact hg')⟩
  · by_cases e : kl = keyI s
    · exact ⟨s, hs, e⟩
    · rw [has_put_other e] at hk
      exact h.keys kl hk

/-- The look-up of a sector that is cached, and of one that isn't. -/
theorem CacheD.look {w : World} {M : Nat → Prop} {S mb s : Nat} {C : Nat → Option (List Int)} {n : Nat} {D : DataW Unit} {zs : List Int} (h : CacheD w M S mb C n D) (hS : S ≤ 4096) (hs : s < S) (hc : C s = some zs) :
    ∃ g c : Nat, ¬ M g ∧ Bys w (some ⟨g, 0, none⟩) 64 zs ∧ (Instr.lookup 79 (.map (some mb)) (.int .i64 (s : Int)) true).run Tryz.prog w = .ok (.tuple #[.slice (some ⟨g, 0, none⟩) 64 c, .bool true]) w := by
  obtain ⟨g, hg, ha, hy⟩ := h.lies s zs hs hc
  have hh := h.has s hs
  rw [hc] at hh
  obtain ⟨v, ps, hrun, hv⟩ := h.own.look_ok law3 Tryz.underlying79 (zeroE w) elemR_zero (hkeyI (by omega : s < 4096))
  rw [ha] at hv
  obtain ⟨c, rfl⟩ := elemR_lit hv
  rw [show Maps.has D (keyI s) = true from hh] at hrun
  exact ⟨g, c, hg, hy, hrun⟩
theorem CacheD.miss {w : World} {M : Nat → Prop} {S mb s : Nat} {C : Nat → Option (List Int)} {n : Nat} {D : DataW Unit} (h : CacheD w M S mb C n D) (hS : S ≤ 4096) (hs : s < S) (hc : C s = none) :
    (Instr.lookup 79 (.map (some mb)) (.int .i64 (s : Int)) true).run Tryz.prog w = .ok (.tuple #[.slice none 0 0, .bool false]) w := by
  have hh := h.has s hs
  rw [hc] at hh
  obtain ⟨v, ps, hrun, hv⟩ := h.own.look_ok law3 Tryz.underlying79 (zeroE w) elemR_zero (hkeyI (by omega : s < 4096))
  rw [atKey_of_not_has (show Maps.has D (keyI s) = false from hh)] at hv
  obtain rfl := elemR_nil hv
  rw [show Maps.has D (keyI s) = false from hh] at hrun
  exact hrun

theorem CacheD.small {w : World} {M : Nat → Prop} {S mb s : Nat} {C : Nat → Option (List Int)} {n : Nat} {D : DataW Unit} {zs : List Int} (h : CacheD w M S mb C n D) (hs : s < S) (hc : C s = some zs) : zs.length = 64 ∧ AllB zs := by
  obtain ⟨g, _, _, hy⟩ := h.lies s zs hs hc
  exact ⟨hy.len, hy.small⟩

/-- The step of a range over what is cached. -/
theorem wpList_next_cache {w : World} {ops : Array Oper} {rest : List Oper} {o : Oper} {a : Act} {Q : Exit → Act → World → Prop} (hg : o.guard = none) (it : Operand) (hop : o.op = Op.next it false)
    (M : Nat → Prop) (S mb r n : Nat) (C : Nat → Option (List Int)) (D : DataW Unit) (left : Lit → Bool) (cnt : Nat) (w0 : World) (hC : CacheD w0 M S mb C n D) (hit : a.eval it = .pointer (some ⟨r, 0, none⟩)) (h : w.ranges Tryz.prog 3 elemR mb r n D left cnt)
    (hDone : cnt = 0 → (∀ kl, left kl = false) → wpList Tryz.prog ops Q rest (a.put o.dst (.tuple #[.bool false])) w)
    (hMore : ∀ (s g c : Nat) (zs : List Int) (w' : World) (cnt' : Nat), s < S → C s = some zs → ¬ M g → Bys w0 (some ⟨g, 0, none⟩) 64 zs → left (keyI s) = true → w'.ranges Tryz.prog 3 elemR mb r n D (fun z => left z && !z.sameKey (keyI s)) cnt' → cnt' < cnt →
      w.grownBy w' (some r) → (Instr.entry (.pointer (some ⟨r, 0, none⟩))).run Tryz.prog w' = .ok (.tuple #[.int .i64 (s : Int), .slice (some ⟨g, 0, none⟩) 64 c]) w' →
      wpList Tryz.prog ops Q rest (a.put o.dst (.tuple #[.bool true, .int .i64 (s : Int), .slice (some ⟨g, 0, none⟩) 64 c])) w') :
    wpList Tryz.prog ops Q (o :: rest) a w :=
  wpList_next_ranges w hg it hop 3 law3 elemR id id (fun key _ _ => ⟨key, rfl⟩) (fun v _ _ => ⟨v, rfl⟩) mb r n D left cnt hit h hDone (fun x v kl y w' cnt' hkey hlk hv hat hrg hlt hgr hsz hen => by
    obtain ⟨s, hs, rfl⟩ := hC.keys kl (has_true_of_atKey hat)
    have hh := hC.has s hs
    rw [has_true_of_atKey hat] at hh
    obtain ⟨zs, hzs⟩ := Option.isSome_iff_exists.1 hh.symm
    obtain ⟨g, hg', ha, hy⟩ := hC.lies s zs hs hzs
    obtain ⟨x', rfl, e2, _⟩ := Maps.keyOf_i64 Tryz.underlying3 hkey
    obtain rfl : x' = (s : Int) := by simpa [keyI] using e2.symm
    obtain ⟨y1, y2⟩ := y
    rw [hat .nil] at ha
    obtain rfl : y1 = .lit (.int .i64 (g : Int)) := ha
    obtain ⟨c, rfl⟩ := elemR_lit hv
    exact hMore s g c zs w' cnt' hs hzs hg' hy hlk hrg hlt hgr hen)

end Go.Proofs.YtegmeoghonolcaaGreat

/-
  A disk of the program's rack, and its functions, by contract.
-/
namespace Go.Proofs.YtegmeoghonolcaaGreat
open Go.RowKit Go.Maps

/-- What a disk is: its bytes, what is cached of its sectors, has it failed, its count. -/
structure Dk where
  last : List Int
  cache : Nat → Option (List Int)
  bad : Bool
  cnt : Int

/-- A disk of S sectors whose four cells lie in block db from place o on. -/
structure DrvAt (w : World) (M : Nat → Prop) (S db o lb mb : Nat) (d : Dk) : Prop where
  c0 : w.cell? ⟨db, o, none⟩ = some (.slice (some ⟨lb, 0, none⟩) (S * 64) (S * 64))
  c1 : w.cell? ⟨db, o + 1, none⟩ = some (.map (some mb))
  c2 : w.cell? ⟨db, o + 2, none⟩ = some (.bool d.bad)
  c3 : w.cell? ⟨db, o + 3, none⟩ = some (.int .i64 d.cnt)
  blk : Blk w lb d.last
  len : d.last.length = S * 64
  small : AllB d.last
  cache : CacheAt w M S mb d.cache
  big : d.cnt ≤ 9223372036854775807

/-- What a sector reads as. -/
def Dk.read (d : Dk) (s : Nat) : List Int := (d.cache s).getD (sec d.last s)

/-- Blocks other than the disk's own two. -/
def Own2 (lb mb : Nat) : Nat → Prop := fun k => k = lb ∨ k = mb

theorem DrvAt.lt {w : World} {M : Nat → Prop} {S db o lb mb : Nat} {d : Dk} (h : DrvAt w M S db o lb mb d) : db < w.heap.size := World.block_lt_of_cell? w _ h.c0

end Go.Proofs.YtegmeoghonolcaaGreat

/-
  Slices of numbers of the call's own.
-/
namespace Go.Proofs.YtegmeoghonolcaaGreat
open Go.RowKit
set_option linter.unusedVariables false

theorem info3 : (Tryz.prog.info? 3).map (fun i => (i.zero, i.size, i.bytes)) = some (some (.int .i64 0), 1, 8) := by kernel_rfl

/-- A slice of numbers of the call's own. -/
def OwnI (w : World) (B : Nat) (v : Value) (n : Nat) (ks : List Int) : Prop := w.ownsRow B 3 1 v n (ks.map (Value.int .i64))
theorem OwnI.below {w w' : World} {B : Nat} {v : Value} {n : Nat} {ks : List Int} (h : OwnI w B v n ks) {C : Nat} (hC : w.heap.size ≤ C) (hb : Below C w w') : OwnI w' B v n ks :=
  h.kept (row := none) ⟨hb.os, hb.tape, hb.output, hb.size, fun k hk _ => hb.block k (by omega)⟩ (by cases v.ownBlock <;> simp)
theorem OwnI.next {w w' : World} {B : Nat} {v : Value} {n : Nat} {ks : List Int} (h : OwnI w B v n ks) (hb : Below w.heap.size w w') : OwnI w' B v n ks := h.below (Nat.le_refl _) hb
theorem OwnI.alloc {w : World} {B : Nat} {v : Value} {n : Nat} {ks : List Int} (h : OwnI w B v n ks) (o : Obj) : OwnI (w.alloc o) B v n ks := h.next ((Below.refl _ _).alloc (Nat.le_refl _) o)
theorem ownI_nil (w : World) (B : Nat) : OwnI w B (.slice none 0 0) 0 [] := World.ownsRow_nil _ _ _ _
theorem OwnI.ins {w : World} {B : Nat} {v : Value} {n : Nat} {ks : List Int} (h : OwnI w B v n ks) : ∃ a c, v = .slice a n c ∧ Ins w a n ks ∧ n ≤ c ∧ c ≤ 9223372036854775807 ∧ (∀ x, a = some x → B ≤ x.block ∧ x.block < w.heap.size) := by
  rcases h.2 with ⟨rfl, rfl⟩ | ⟨g, cap, cur, rfl, hb, hg, hnc, hm, hsz, htake⟩
  · have := h.1
    simp at this
    exact ⟨none, 0, rfl, ⟨by simpa using this, .inl rfl⟩, Nat.le_refl _, by omega, (fun x hx => by cases hx)⟩
  · have hl : ks.length = n := by have := h.1; simpa using this
    refine ⟨some ⟨g, 0, none⟩, cap, rfl, ⟨hl, .inr ⟨g, 0, rfl, lt_of_block hg, fun i hi => ?_⟩⟩, hnc, by unfold maxLen at hm; omega, fun x hx => by cases hx; exact ⟨hb, lt_of_block hg⟩⟩
    have hc := h.cellAt i (by omega)
    rw [Nat.zero_add, hc]
    simp [List.getD, show i < ks.length by omega]

/-- 'append(s, x)' of one number, s of the call's own; what lies in other blocks is as it was. -/
theorem wpList_apz {w : World} {ops : Array Oper} {rest : List Oper} {o : Oper} {a : Act} {Q : Exit → Act → World → Prop} (hgd : o.guard = none) (s x : Operand)
    (ho : o.op = .call { callee := .builtin .append, args := #[s, x], argTypes := #[36, 36] })
    (B : Nat) (v : Value) (n : Nat) (ks : List Int) (hs : a.eval s = v) (hown : OwnI w B v n ks) (g : Nat) (z : Int) (hx : a.eval x = .slice (some ⟨g, 0, none⟩) 1 1) (hg : w.cell? ⟨g, 0, none⟩ = some (.int .i64 z))
    (hn : n + 1 ≤ 1000000000000) (hB : B ≤ w.heap.size) (w0 : World) (hb : Below B w0 w)
    (h : ∀ v' w', OwnI w' B v' (n + 1) (ks ++ [z]) → Below B w0 w' → wpList Tryz.prog ops Q rest (a.put o.dst v') w') : wpList Tryz.prog ops Q (o :: rest) a w := by
  obtain ⟨i0, hi, hz0, hz1, hz2⟩ := info_parts info3
  refine wpList_append_own w hgd s x 36 ho B 3 i0 (.int .i64 0) 1 8 Tryz.underlying36 hi hz0 hz1 hz2 rfl (by decide) v n _ hs hown ⟨g, 0, none⟩ 1 1 [.int .i64 z] hx rfl ?_ ?_ (by unfold maxLen; omega) (by omega) hB ?_
  · intro j u hj
    cases j with
    | zero =>
      simp at hj
      subst hj
      exact hg
    | succ j => simp at hj
  · intro u hu
    rw [List.mem_singleton.1 hu]
    rfl
  · intro v' w' hown' hgrow _
    exact h v' w' (by unfold OwnI; rw [List.map_append]; exact hown') (hb.grown hgrow hB fun k hk => (hown.lt k hk).1)
/-- Numbers of the call's own. -/
def RetI (w0 : World) (ks : List Int) (e : Ending) (w' : World) : Prop := ∃ v, e = .returned v ∧ OwnI w' w0.heap.size v ks.length ks ∧ Below w0.heap.size w0 w'

end Go.Proofs.YtegmeoghonolcaaGreat
