/-
  What it is for a call to answer a slice that holds given bytes; worlds of which only some blocks have turned.
-/
import Derived.Test.YtegmeoghonolcaaGreatCs
import Derived.Test.YtegmeoghonolcaaGreatNa
import Derived.Test.YtegmeoghonolcaaGreatLay
import Derived.Laws.BytesArg
import Derived.Lib.Bytes
import Derived.Lib.SliceRun
import Derived.Deep.RegionHeld3
set_option linter.unusedSimpArgs false
set_option linter.unusedVariables false
namespace Go.Proofs.YtegmeoghonolcaaGreat
open Go.RowKit

/-- Of the blocks that were there only those of M have turned. -/
structure Turn (M : Nat → Prop) (w w' : World) : Prop where
  os : w'.os = w.os
  tape : w'.tape = w.tape
  output : w'.output = w.output
  size : w.heap.size ≤ w'.heap.size
  block : ∀ k, k < w.heap.size → ¬ M k → w'.heap[k]? = w.heap[k]?

theorem Turn.refl (M : Nat → Prop) (w : World) : Turn M w w := ⟨rfl, rfl, rfl, Nat.le_refl _, fun _ _ _ => rfl⟩
theorem Turn.trans {M : Nat → Prop} {a b c : World} (h : Turn M a b) (k : Turn M b c) : Turn M a c :=
  ⟨k.os.trans h.os, k.tape.trans h.tape, k.output.trans h.output, Nat.le_trans h.size k.size, fun i hi hm => (k.block i (Nat.lt_of_lt_of_le hi h.size) hm).trans (h.block i hi hm)⟩
theorem Turn.mono {M M' : Nat → Prop} {w w' : World} (h : Turn M w w') (hm : ∀ k, M k → M' k) : Turn M' w w' := ⟨h.os, h.tape, h.output, h.size, fun k hk hn => h.block k hk fun x => hn (hm k x)⟩
theorem Turn.of_below {M : Nat → Prop} {w w' : World} (h : Below w.heap.size w w') : Turn M w w' := ⟨h.os, h.tape, h.output, h.size, fun k hk _ => h.block k hk⟩
theorem Turn.of_grown {M : Nat → Prop} {w w' : World} {b : Nat} (h : w.grownBy w' (some b)) (hb : M b) : Turn M w w' :=
  ⟨h.os, h.tape, h.output, h.size, fun k hk hn => h.block k hk (fun e => by cases e; exact hn hb)⟩
theorem Turn.setCell {M : Nat → Prop} (w : World) {a : Addr} (hb : M a.block) (u : Value) : Turn M w (w.setCell a u) :=
  ⟨rfl, rfl, rfl, by simp [World.setCell], fun k _ hn => Below.heap_setCell w a u k (fun e => hn (e ▸ hb))⟩
theorem turn_set (w : World) (b i : Nat) (u : Value) : Turn (· = b) w (w.setCell ⟨b, i, none⟩ u) := Turn.setCell (M := (· = b)) (a := ⟨b, i, none⟩) w rfl u
theorem Turn.below {M : Nat → Prop} {w w' : World} (h : Turn M w w') {B : Nat} (hB : B ≤ w.heap.size) (hm : ∀ k, M k → B ≤ k) : Below B w w' :=
  ⟨h.os, h.tape, h.output, h.size, fun k hk => h.block k (by omega) fun x => by have := hm k x; omega⟩
theorem Turn.cell {M : Nat → Prop} {w w' : World} (h : Turn M w w') {a : Addr} (hlt : a.block < w.heap.size) (hm : ¬ M a.block) : w'.cell? a = w.cell? a := World.cell?_of_block (w := w) (h.block _ hlt hm)
theorem Turn.frozen {M : Nat → Prop} {w w' : World} (h : Turn M w w') {a : Addr} (hlt : a.block < w.heap.size) (hm : ¬ M a.block) : w'.frozen? a = w.frozen? a := World.frozen?_of_block (w := w) (h.block _ hlt hm)
theorem bys_turn {M : Nat → Prop} {w w' : World} {a : Option Addr} {n : Nat} {zs : List Int} (h : Bys w a n zs) (ht : Turn M w w') (hm : ∀ b off, a = some ⟨b, off, .none⟩ → ¬ M b) : Bys w' a n zs := by
  refine ⟨h.len, h.small, ?_⟩
  rcases h.place with h0 | ⟨b, off, ha, hlt, hc⟩
  · exact .inl h0
  · exact .inr ⟨b, off, ha, Nat.lt_of_lt_of_le hlt ht.size, fun i hi => (ht.cell (a := ⟨b, off + i, .none⟩) hlt (hm b off ha)).trans (hc i hi)⟩
theorem Blk.turn {M : Nat → Prop} {w w' : World} {g : Nat} {zs : List Int} (h : Blk w g zs) (ht : Turn M w w') (hm : ¬ M g) : Blk w' g zs := ⟨(ht.block g h.lt hm).trans h.row⟩

/-- A block of cells of one cell each. -/
theorem cells_set {w : World} {g i : Nat} {cs : Array Value} {t : TypeId} {u : Value} (h : w.heap[g]? = some (.cells cs t (0, 0))) : (w.setCell ⟨g, i, none⟩ u).heap[g]? = some (.cells (cs.setIfInBounds i u) t (0, 0)) :=
  heap_setCell_same w g i _ _ _ h

end Go.Proofs.YtegmeoghonolcaaGreat

/-
  Put, Get, Xor and Pad, each by one contract for every input.
-/
namespace Go.Proofs.YtegmeoghonolcaaGreat
open Go.RowKit

/-- What Put answers. -/
def putL (k n : Int) : List Int := if isW k && hasW n k then digs k.toNat n else []
theorem putL_yes {m : Nat} {n : Int} (h1 : 1 ≤ m) (h4 : m ≤ 4) (h : hasW n m = true) : putL m n = digs m n := by
  simp [putL, isW_true (n := (m : Int)) (by omega), h]
theorem putL_no {k n : Int} (h : isW k = false ∨ hasW n k = false) : putL k n = [] := by
  rcases h with h | h <;> simp [putL, h]
theorem putL_small (k n : Int) : AllB (putL k n) := by
  unfold putL
  split
  · exact digs_small _ _
  · intro z hz; cases hz

/-- What Get answers. -/
def getO (la : Nat) (p k : Int) : Bool := decide ((1 ≤ k ∧ k ≤ 4) ∧ 0 ≤ p ∧ p ≤ la - k)
def getV (la : Nat) (x : List Int) (p k : Int) : Int := if getO la p k then getN x p.toNat k.toNat else 0
theorem get_fun (a : Option Addr) (la ca : Nat) (p k : Int) (x : List Int) (w : World) (hx : Bys w a la x) (hn : la ≤ 1000000000000) :
    Calls Tryz.prog 112 #[.slice a la ca, .int .i64 p, .int .i64 k] w fun e w' => e = .returned (.tuple #[.int .i64 (getV la x p k), .bool (getO la p k)]) ∧ w = w' := by
  by_cases h : (1 ≤ k ∧ k ≤ 4) ∧ 0 ≤ p ∧ p ≤ la - k
  · have ho : getO la p k = true := by simp only [getO, decide_eq_true_eq]; exact h
    obtain ⟨m, rfl⟩ := Int.eq_ofNat_of_zero_le (by omega : 0 ≤ k)
    obtain ⟨q, rfl⟩ := Int.eq_ofNat_of_zero_le h.2.1
    rw [getV, if_pos ho, ho]
    exact get_yes a la ca q m x w hx hn (by omega) (by omega) (by omega)
  · have ho : getO la p k = false := by simp only [getO, decide_eq_false_iff_not]; exact h
    rw [getV, if_neg (by rw [ho]; decide), ho]
    exact get_no a la ca p k w hn (by omega)
/-- What Pad answers. -/
def padO (la : Nat) (n : Int) : Bool := decide ((la : Int) ≤ n ∧ n ≤ 65536)
def padF (x : List Int) (n : Int) : List Int := if padO x.length n then padL x n.toNat else []
end Go.Proofs.YtegmeoghonolcaaGreat

/-
  The library's calls on bytes: Equal, Clone, Grow of the nil slice.
-/
namespace Go.Proofs.YtegmeoghonolcaaGreat
open Go.RowKit

theorem byte_inj {a b : Int} (ha : 0 ≤ a ∧ a ≤ 255) (hb : 0 ≤ b ∧ b ≤ 255) (h : UInt8.ofNat a.toNat = UInt8.ofNat b.toNat) : a = b := by
  have := congrArg UInt8.toNat h
  simp at this
  omega
theorem bytes_inj : ∀ {x y : List Int}, AllB x → AllB y → (x.map fun n => UInt8.ofNat n.toNat) = (y.map fun n => UInt8.ofNat n.toNat) → x = y
  | [], [], _, _, _ => rfl
  | [], _ :: _, _, _, h => by simp at h
  | _ :: _, [], _, _, h => by simp at h
  | a :: x, b :: y, hx, hy, h => by
    simp only [List.map_cons, List.cons.injEq] at h
    rw [byte_inj (hx a List.mem_cons_self) (hy b List.mem_cons_self) h.1, bytes_inj (fun z hz => hx z (List.mem_cons_of_mem _ hz)) (fun z hz => hy z (List.mem_cons_of_mem _ hz)) h.2]
theorem str_same {x y : List Int} (hx : AllB x) (hy : AllB y) : ((strOfNums x).toList == (strOfNums y).toList) = sameB x y := by
  rw [Lib.strOfNums_toList, Lib.strOfNums_toList]
  by_cases h : x = y
  · rw [h, sameB_true rfl, beq_self_eq_true]
  · rw [sameB_false h, beq_eq_false_iff_ne]
    exact fun e => h (bytes_inj hx hy e)
theorem bys_conv {w : World} {a : Option Addr} {n : Nat} {x : List Int} (h : Bys w a n x) (c : Nat) : (convert 42 9 (.slice a n c)).run Tryz.prog w = .ok (.string (strOfNums x)) w := by
  rcases h.place with h0 | ⟨b, off, rfl, _, hc⟩
  · subst h0
    obtain rfl : x = [] := List.eq_nil_of_length_eq_zero h.len
    cases a with
    | none => exact run_convert_bytes_nil (P := Tryz.prog) w 42 5 Tryz.underlying42 Tryz.underlying5 0 c 9 Tryz.underlying9
    | some p =>
      rw [run_convert_bytes_string w 42 9 5 (some p) 0 c Tryz.underlying42 Tryz.underlying5 Tryz.underlying9, run_bytesToString w p 0 c [] (run_loadCells_list (P := Tryz.prog) w p [] (fun j v h => by cases h))]
      rfl
  · exact run_convert_bytes_arg (P := Tryz.prog) w 42 5 Tryz.underlying42 Tryz.underlying5 b off n c x h.len hc 9 Tryz.underlying9

theorem equal_any (a b : Option Addr) (n c m d : Nat) (x y : List Int) (w : World) (hx : Bys w a n x) (hy : Bys w b m y) :
    Calls Tryz.prog 66 #[.slice a n c, .slice b m d] w fun e w' => e = .returned (.bool (sameB x y)) ∧ w = w' := by
  have h1 := bys_conv hx c
  have h2 := bys_conv hy d
  rw [← str_same hx.small hy.small]
  clear hx hy
  go_enter Tryz.func66, Tryz.ntmps66
  go_wp2
  go_ret
  exact ⟨rfl, rfl⟩

theorem cloneP_any (a : Option Addr) (n c : Nat) (x : List Int) (w : World) (hx : Pin w a n c x) (hn : n ≤ 1000000000000) :
    Calls Tryz.prog 125 #[.slice a n c] w (ConPost w x) := by
  have hq : ∀ (w : World) (a : Option Addr) (n c : Nat), (binOp .eql 42 (.slice a n c) (.slice none 0 0)).run Tryz.prog w = .ok (.bool a.isNone) w := fun w a n c => Lib.run_eql_slice_nil w _ _ a n c 0 0 Tryz.underlying42
  cases a with
  | none =>
    obtain ⟨rfl, rfl⟩ := hx.nil rfl
    obtain rfl : x = [] := List.eq_nil_of_length_eq_zero hx.len
    clear hx
    go_enter Tryz.func125, Tryz.ntmps125
    go_wp2
    go_ret
    exact ⟨_, rfl, ⟨World.ownsRow_nil _ _ _ _, fun z hz => by cases hz⟩, Below.refl _ _⟩
  | some p =>
    go_enter Tryz.func125, Tryz.ntmps125
    go_wp2_with (at_builtin; go_must (refine wpList_ap rfl (.tmp 5) (.tmp 6) rfl w.heap.size _ 0 [] rfl (own_none w w.heap.size (Nat.le_refl _)) (some p) n c x rfl (hx.bys.below (Nat.le_refl _) ((Below.refl _ _).alloc (Nat.le_refl _) _)) (fun h => by cases h) (by omega) (by simp) w ((Below.refl _ _).alloc (Nat.le_refl _) _) ?_); intro v w1 hown1 hb1)
    go_ret
    exact ⟨_, rfl, by rw [hx.len]; simpa using hown1, hb1⟩

/-- Room for n bytes. -/
def GrowPost (w : World) (e : Ending) (w' : World) : Prop := ∃ v, e = .returned v ∧ Own w' w.heap.size v 0 [] ∧ Below w.heap.size w w'
theorem grow_any (n : Nat) (w : World) (hn : n ≤ 1000000000000) : Calls Tryz.prog 171 #[.slice none 0 0, .int .i64 n] w (GrowPost w) := by
  by_cases h0 : n = 0
  · subst h0
    refine (Any8.slices_Grow_room growA none 0 0 0 w (Nat.le_refl _) (by omega) (by omega) (by omega)).mono fun e w' ⟨he, hw⟩ => ?_
    subst he hw
    exact ⟨_, rfl, ⟨World.ownsRow_nil _ _ _ _, fun z hz => by cases hz⟩, Below.refl _ _⟩
  · obtain ⟨i0, hi, hz0, hz1, hz2⟩ := info_parts info8
    refine (Any8.slices_Grow_grow growA i0 (.int .u8 0) hi hz0 (by rw [hz1]; omega) none 0 0 n [] w (Nat.le_refl _) (by omega) (by rw [hz2]; omega) (by omega) (by simp) (fun _ => rfl) (fun a h => by cases h)).mono fun e w' ⟨he, hw⟩ => ?_
    subst he hw
    refine ⟨_, rfl, ⟨World.ownsRow_made w.drew _ _ (Nat.le_refl _) ?_ ?_, fun z hz => by cases hz⟩, ?_⟩
    · exact grownCap_le_maxLen w (0 + n) 0 5 (by unfold maxLen; omega)
    · have h1 : n ≤ grownCap w (0 + n) 0 5 := by have := grownCap_ge w (0 + n) 0 5; omega
      simp only [Array.size_append, List.size_toArray, size_zeroCells, List.length_nil]
      show 0 + (0 + n - 0) * 1 + (grownCap w (0 + n) 0 5 - (0 + n)) * 1 = grownCap w (0 + n) 0 5 * 1
      omega
    · exact (below_drewN (Below.refl _ _) 1).alloc (Nat.le_refl _) _

end Go.Proofs.YtegmeoghonolcaaGreat

/-
  The library's Concat of pieces, by contract.
-/
namespace Go.Proofs.YtegmeoghonolcaaGreat
open Go.RowKit

/-- The counting loop's relation. -/
def ConRel (f : Nat → Pc) (n : Nat) (u v : Value) : Prop := ∃ k s : Nat, k ≤ n ∧ s = (catL f k).length ∧ v = .int .i64 k ∧ u = .int .i64 s
/-- The gathering loop's relation. -/
def ConRel2 (w0 : World) (f : Nat → Pc) (n : Nat) (u v : Value) (w : World) : Prop :=
  ∃ k s : Nat, k ≤ n ∧ s = (catL f k).length ∧ v = .int .i64 k ∧ Own w w0.heap.size u s (catL f k) ∧ Below w0.heap.size w0 w

set_option maxHeartbeats 1000000 in
theorem concat_any (a : Option Addr) (n c : Nat) (f : Nat → Pc) (w : World) (h : Rws w a n f) (hn : n ≤ 1000000000000) (ht : (catL f n).length ≤ 1000000000000) :
    Calls Tryz.prog 134 #[.slice a n c] w (ConPost w (catL f n)) := by
  have HT := Lib.hid ht
  clear ht
  go_enter Tryz.func134, Tryz.ntmps134
  go_wp2
  go_loop [3, 5, 11] (fun u _p v => ConRel f n u v) (fun _ _ v => n - (RowKit.intOf v).toNat)
  case atStart => exact ⟨0, 0, by omega, rfl, rfl, rfl⟩
  case round =>
    obtain ⟨k, s, hk, hs, rfl, rfl⟩ := hrel
    have hsl : s ≤ 1000000000000 := by have := catL_le f hk; have := HT.out; omega
    have HS := Lib.hid hs
    clear hs
    by_cases hlt : k < n
    · obtain ⟨b, off, x, m, d, zs, rfl, hb, hc, hp, hz, hm⟩ := h.at hlt
      have hl1 : (catL f (k + 1)).length = s + m := by rw [catL_len, hz, hp.len, ← HS.out]
      have hl2 := catL_le f (k := k + 1) (n := n) hlt
      have ht' := HT.out
      have hms : s + m ≤ 1000000000000 := by omega
      have HL := Lib.hid hl1
      clear h hp hz hm hl1 hl2 ht'
      go_wp2
      go_round
      case rel => exact ⟨k + 1, s + m, by omega, HL.out.symm, by go_num, by go_num⟩
      case measure => simp [RowKit.intOf]; omega
    · obtain rfl : k = n := by omega
      go_wp2_with (fail)
      refine (grow_any s w (by omega)).mono ?_
      rintro e w1 ⟨v0, rfl, ho1, hb1⟩
      go_wp2_with (fail)
      go_loopw [6, 8, 27] (fun u _p v wr => ConRel2 w f k u v wr) (fun _ _ v _ => k - (RowKit.intOf v).toNat)
      case atStart => exact ⟨0, 0, by omega, rfl, rfl, ho1, hb1⟩
      case round =>
        obtain ⟨j, s2, hj, hs2, rfl, ho, hbl⟩ := hrel
        have HS2 := Lib.hid hs2
        clear hs2 ho1
        by_cases hlt2 : j < k
        · obtain ⟨b, off, x, m, d, zs, rfl, hb, hc, hp, hz, hm⟩ := (h.next hbl).at hlt2
          have hl1 : (catL f (j + 1)).length = s2 + m := by rw [catL_len, hz, hp.len, ← HS2.out]
          have hl2 := catL_le f (k := j + 1) (n := k) hlt2
          have ht' := HT.out
          have hms : s2 + m ≤ 1000000000000 := by omega
          have HC := Lib.hid (show catL f (j + 1) = catL f j ++ zs by rw [← hz]; rfl)
          have hx := hp.bys
          have hn0 := hp.nil
          have hsz := hbl.size
          have HL := Lib.hid hl1
          clear h hp hz hm hl1 hl2 ht' hb1
          go_wp2_with (at_builtin; go_must (refine wpList_ap rfl (.tmp 31) (.tmp 32) rfl w.heap.size _ s2 _ rfl ho x m d zs rfl hx hn0 (by omega) hsz w hbl ?_); intro v1 w2 hown2 hb2)
          go_roundw
          case rel => exact ⟨j + 1, s2 + m, by omega, HL.out.symm, by go_num, by rw [HC.out]; exact hown2, hb2⟩
          case measure => simp [RowKit.intOf]; omega
        · obtain rfl : j = k := by omega
          clear h hb1
          go_wp2_with (fail)
          go_ret
          exact ⟨_, rfl, by rw [← HS2.out]; exact ho, hbl⟩

end Go.Proofs.YtegmeoghonolcaaGreat

/-
  The sector's small questions, and the numbers' bytes as pieces.
-/
namespace Go.Proofs.YtegmeoghonolcaaGreat
open Go.RowKit

def is64 (n : Nat) : Bool := decide (n = 64)
theorem isSector_any (a : Option Addr) (n c : Nat) (w : World) : Calls Tryz.prog 123 #[.slice a n c] w fun e w' => e = .returned (.bool (is64 n)) ∧ w = w' := by
  by_cases h : n = 64
  · subst h
    go_enter Tryz.func123, Tryz.ntmps123
    go_wp2
    go_ret
    exact ⟨rfl, rfl⟩
  · have hs : Hid (is64 n = false) := by show _ = _; simp [is64, h]
    have h1 : ((n : Int) == 64) = false := by simp; omega
    clear h
    go_enter Tryz.func123, Tryz.ntmps123
    go_wp2
    go_ret
    exact ⟨ret_bool hs.out.symm, rfl⟩
theorem seqOf_any (a : Option Addr) (n c : Nat) (w : World) (h : 4 ≤ c) (hm : c ≤ 9223372036854775807) (ha : a = none → n = 0 ∧ c = 0) :
    Calls Tryz.prog 141 #[.slice a n c] w fun e w' => e = .returned (.slice a 4 c) ∧ w = w' := by
  cases a with
  | none => have := ha rfl; omega
  | some p =>
    obtain ⟨b, o, s⟩ := p
    clear ha
    go_enter Tryz.func141, Tryz.ntmps141
    go_wp2
    go_ret
    exact ⟨rfl, rfl⟩
theorem toldS_any (b o c : Nat) (w : World) (h : 64 ≤ c) (hm : c ≤ 9223372036854775807) :
    Calls Tryz.prog 140 #[.slice (some ⟨b, o, none⟩) 64 c] w fun e w' => e = .returned (.slice (some ⟨b, o + 4, none⟩) 60 (c - 4)) ∧ w = w' := by
  have h4 : ¬ c = 4 := by omega
  go_enter Tryz.func140, Tryz.ntmps140
  go_wp2
  go_ret
  exact ⟨rfl, rfl⟩
theorem number_any (a : Option Addr) (n c p m : Nat) (x : List Int) (w : World) (hx : Bys w a n x) (hn : n ≤ 1000000000000) (h1 : 1 ≤ m) (h4 : m ≤ 4) (hp : p + m ≤ n) :
    Calls Tryz.prog 124 #[.slice a n c, .int .i64 p, .int .i64 m] w fun e w' => e = .returned (.int .i64 (getN x p m)) ∧ w = w' := by
  go_enter Tryz.func124, Tryz.ntmps124
  go_wp2_with (fail)
  refine (get_yes a n c p m x w hx hn h1 h4 hp).mono ?_
  rintro e w1 ⟨rfl, rfl⟩
  go_wp2_with (fail)
  go_ret
  exact ⟨rfl, rfl⟩

/-- Put answers a piece. -/
theorem put_s (k n : Int) (w : World) : Calls Tryz.prog 97 #[.int .i64 k, .int .i64 n] w (RetS w (putL k n)) := by
  by_cases h : isW k = false ∨ hasW n k = false
  · rw [putL_no h]
    exact (put_no k n w h).mono fun e w' ⟨he, hw⟩ => by subst he hw; exact RetS.nil _
  · have h1 : isW k = true := by cases hk : isW k <;> simp_all
    have h2 : hasW n k = true := by cases hk : hasW n k <;> simp_all
    obtain ⟨a, b⟩ : 1 ≤ k ∧ k ≤ 4 := by simpa [isW] using h1
    obtain ⟨m, rfl⟩ := Int.eq_ofNat_of_zero_le (by omega : 0 ≤ k)
    rw [putL_yes (by omega) (by omega) h2]
    exact (put_yes m n w (by omega) (by omega) h2).mono fun e w' ⟨he, hb, hl⟩ => ⟨_, _, _, he, hb.pin (digs_small m n) (digs_len m n) (Nat.le_refl _) (by omega), hl⟩
/-- What the reference's Put answers: a piece, and one of the call's own where it has bytes. -/
def RefPut (w0 : World) (zs : List Int) (e : Ending) (w' : World) : Prop :=
  ∃ a m c, e = .returned (.slice a m c) ∧ Pin w' a m c zs ∧ (0 < m → Own w' w0.heap.size (.slice a m c) m zs) ∧ Below w0.heap.size w0 w'
theorem xor_s (a b : Option Addr) (la ca lb cb : Nat) (x y : List Int) (w : World) (hx : Bys w a la x) (hy : Bys w b lb y) (hla : la ≤ 1000000000000) (hlb : lb ≤ 1000000000000) :
    Calls Tryz.prog 139 #[.slice a la ca, .slice b lb cb] w (RetS w (xorL x y)) :=
  (xor_any a b la ca lb cb x y w hx hy hla hlb).mono fun e w' ⟨he, hb, hl⟩ => ⟨_, _, _, he, hb.pin (xorL_small hx.small hy.small) (by rw [xorL_len, hx.len, hy.len]) (Nat.le_refl _) (by omega), hl⟩
/-- The payload with noughts behind it. -/
theorem pad_s (a : Option Addr) (la ca : Nat) (n : Int) (x : List Int) (w : World) (hx : Bys w a la x) :
    Calls Tryz.prog 98 #[.slice a la ca, .int .i64 n] w (RetT w (padF x n) (padO la n)) := by
  by_cases h : (la : Int) ≤ n ∧ n ≤ 65536
  · have ho : padO la n = true := by simp only [padO, decide_eq_true_eq]; exact h
    obtain ⟨m, rfl⟩ := Int.eq_ofNat_of_zero_le (by omega : 0 ≤ n)
    have hL : padF x m = padL x m := by unfold padF; rw [hx.len, ho]; rfl
    rw [hL, ho]
    exact (pad_yes a la ca m x w hx (by omega) (by omega)).mono fun e w' ⟨he, hb, hl⟩ => ⟨_, _, _, he, hb.pin (padL_small hx.small m) (padL_len (by rw [hx.len]; omega)) (Nat.le_refl _) (by omega), hl⟩
  · have ho : padO la n = false := by simp only [padO, decide_eq_false_iff_not]; exact h
    have hL : padF x n = [] := by unfold padF; rw [hx.len, ho]; rfl
    rw [hL, ho]
    exact (pad_no a la ca n w (by omega)).mono fun e w' ⟨he, hw⟩ => by subst he hw; exact RetT.nil _ _

end Go.Proofs.YtegmeoghonolcaaGreat

/-
  The program's Encode, by contract.
-/
namespace Go.Proofs.YtegmeoghonolcaaGreat
open Go.RowKit

/-- A head, as a value. -/
abbrev hv (s o i : Int) : Value := .agg #[.int .i64 s, .int .i64 o, .int .i64 i]
/-- A head stands in block b. -/
structure Hx (w : World) (b : Nat) (s o i : Int) : Prop where
  lt : b < w.heap.size
  c0 : w.cell? ⟨b, 0, none⟩ = some (.int .i64 s)
  c1 : w.cell? ⟨b, 1, none⟩ = some (.int .i64 o)
  c2 : w.cell? ⟨b, 2, none⟩ = some (.int .i64 i)
theorem Hx.below {w w' : World} {b B : Nat} {s o i : Int} (h : Hx w b s o i) (hb : Below B w w') (hB : w.heap.size ≤ B) : Hx w' b s o i := by
  have hl := h.lt
  exact ⟨Nat.lt_of_lt_of_le hl hb.size, (hb.cell (p := ⟨b, 0, none⟩) (by show b < B; omega)).trans h.c0, (hb.cell (p := ⟨b, 1, none⟩) (by show b < B; omega)).trans h.c1, (hb.cell (p := ⟨b, 2, none⟩) (by show b < B; omega)).trans h.c2⟩
theorem Hx.next {w w' : World} {b : Nat} {s o i : Int} (h : Hx w b s o i) (hb : Below w.heap.size w w') : Hx w' b s o i := h.below hb (Nat.le_refl _)
theorem Hx.mk' (w : World) (s o i : Int) (t : TypeId) : Hx (w.alloc (.cells #[.int .i64 s, .int .i64 o, .int .i64 i] t (0, 0))) w.heap.size s o i :=
  ⟨by simp, by simp, by simp, by simp⟩
theorem Hx.alloc {w : World} {b : Nat} {s o i : Int} (h : Hx w b s o i) (x : Obj) : Hx (w.alloc x) b s o i := h.below (((Below.refl _ _).alloc (Nat.le_refl _) x)) (Nat.le_refl _)
theorem Hx.drew {w : World} {b : Nat} {s o i : Int} (h : Hx w b s o i) : Hx w.drew b s o i := ⟨h.lt, h.c0, h.c1, h.c2⟩

/-- All numbers of a head have their widths. -/
def okH (s o i : Int) : Bool := hasW s 4 && hasW o 2 && hasW i 2
def headL (s o i : Int) : List Int := putL 4 s ++ putL 2 o ++ putL 2 i
def encO (s o i : Int) (x : List Int) : Bool := decide (x.length ≤ 56) && okH s o i
def encL (s o i : Int) (x : List Int) : List Int := if encO s o i x then headL s o i ++ padL x 56 else []
theorem putL_len (k : Nat) (n : Int) (h1 : 1 ≤ k) (h4 : k ≤ 4) : (putL k n).length = if hasW n k then k else 0 := by
  cases h : hasW n k
  · rw [putL_no (.inr h)]; rfl
  · rw [putL_yes h1 h4 h, digs_len]; rfl
theorem headL_len (s o i : Int) : (headL s o i).length ≤ 8 ∧ ((headL s o i).length = 8 ↔ okH s o i = true) := by
  have h1 : (putL 4 s).length = if hasW s 4 then 4 else 0 := putL_len 4 s (by omega) (by omega)
  have h2 : (putL 2 o).length = if hasW o 2 then 2 else 0 := putL_len 2 o (by omega) (by omega)
  have h3 : (putL 2 i).length = if hasW i 2 then 2 else 0 := putL_len 2 i (by omega) (by omega)
  unfold headL okH
  rw [List.length_append, List.length_append, h1, h2, h3]
  cases hasW s 4 <;> cases hasW o 2 <;> cases hasW i 2 <;> simp
theorem headL_small (s o i : Int) : AllB (headL s o i) := ((putL_small 4 s).app (putL_small 2 o)).app (putL_small 2 i)

/-- Two and three pieces, as a row. -/
def row2 (p q : Pc) : Nat → Pc := fun i => if i = 0 then p else q
def row3 (p q r : Pc) : Nat → Pc := fun i => if i = 0 then p else if i = 1 then q else r
theorem catL_two (p q : Pc) : catL (row2 p q) 2 = p.zs ++ q.zs := by simp [catL, row2]
theorem catL_three (p q r : Pc) : catL (row3 p q r) 3 = p.zs ++ q.zs ++ r.zs := by simp [catL, row3]
theorem rws_two {w : World} {t : TypeId} {a0 a1 : Option Addr} {n0 c0 n1 c1 : Nat} {x0 x1 : List Int} (h0 : Pin w a0 n0 c0 x0) (h1 : Pin w a1 n1 c1 x1) :
    Rws (w.alloc (.cells #[.slice a0 n0 c0, .slice a1 n1 c1] t (0, 0))) (some ⟨w.heap.size, 0, none⟩) 2 (row2 ⟨a0, n0, c0, x0⟩ ⟨a1, n1, c1, x1⟩) := by
  refine ⟨.inr ⟨w.heap.size, 0, rfl, by simp, fun i hi => ?_⟩, fun i hi => ?_⟩
  · rcases (by omega : i = 0 ∨ i = 1) with rfl | rfl <;> simp [row2]
  · rcases (by omega : i = 0 ∨ i = 1) with rfl | rfl
    · exact h0.alloc _
    · exact h1.alloc _
theorem rws_three {w : World} {t : TypeId} {a0 a1 a2 : Option Addr} {n0 c0 n1 c1 n2 c2 : Nat} {x0 x1 x2 : List Int} (h0 : Pin w a0 n0 c0 x0) (h1 : Pin w a1 n1 c1 x1) (h2 : Pin w a2 n2 c2 x2) :
    Rws (w.alloc (.cells #[.slice a0 n0 c0, .slice a1 n1 c1, .slice a2 n2 c2] t (0, 0))) (some ⟨w.heap.size, 0, none⟩) 3 (row3 ⟨a0, n0, c0, x0⟩ ⟨a1, n1, c1, x1⟩ ⟨a2, n2, c2, x2⟩) := by
  refine ⟨.inr ⟨w.heap.size, 0, rfl, by simp, fun i hi => ?_⟩, fun i hi => ?_⟩
  · rcases (by omega : i = 0 ∨ i = 1 ∨ i = 2) with rfl | rfl | rfl <;> simp [row3]
  · rcases (by omega : i = 0 ∨ i = 1 ∨ i = 2) with rfl | rfl | rfl
    · exact h0.alloc _
    · exact h1.alloc _
    · exact h2.alloc _

set_option maxHeartbeats 2000000 in
theorem enc_n (s o i : Int) (a : Option Addr) (n c : Nat) (x : List Int) (w : World) (hx : Bys w a n x) :
    Calls Tryz.prog 100 #[hv s o i, .slice a n c] w (RetN w (encL s o i x) (encO s o i x)) := by
  obtain ⟨wb, hwb⟩ : ∃ wb, wb = w.alloc (.cells #[.int .i64 s, .int .i64 o, .int .i64 i] 102 (0, 0)) := ⟨_, rfl⟩
  have h0 : Hx wb w.heap.size s o i := by rw [hwb]; exact Hx.mk' w s o i _
  have hB : Below w.heap.size w wb := by rw [hwb]; exact (Below.refl _ _).alloc (Nat.le_refl _) _
  have hxb : Bys wb a n x := hx.next hB
  have hxl := hx.len
  have HXL := Lib.hid hxl
  clear hx hxl
  go_enter Tryz.func100, Tryz.ntmps100
  go_wp2_with (fail)
  rw [← hwb]
  clear hwb
  with_reducible refine (pad_s a n c 56 x wb hxb).mono ?_
  rintro e w1 ⟨ap, np, cp, rfl, hp1, hb1⟩
  have h1 := h0.next hb1
  have hB1 := hB.trans (hb1.mono (Nat.le_of_lt h0.lt))
  clear h0 hxb hb1 hB
  by_cases hn : n ≤ 56
  · have ho : padO n 56 = true := by simp only [padO, decide_eq_true_eq]; omega
    rw [ho]
    have hd := h1.drew
    have hc0 := hd.c0
    have hc1 := hd.c1
    have hc2 := hd.c2
    go_wp2_with (fail)
    refine wp_region_held_drew (S := (fun w' => w'.cell? ⟨w.heap.size, 0, none⟩ = some (.int .i64 s) ∧ w'.cell? ⟨w.heap.size, 1, none⟩ = some (.int .i64 o) ∧ w'.cell? ⟨w.heap.size, 2, none⟩ = some (.int .i64 i))) (by kernel_rfl) ?_ (fun hHeld => ?_)
    · exact ⟨hc0, hc1, hc2⟩
    refine rgY 0 ?_ rfl (by kernel_rfl) (fun _ _ _ h => h) (.inl ⟨by rfl, fun w hSw => ?_⟩) (by assumption) ?_
    rotate_left
    · (try dsimp only at hSw); go_simp; try with_reducible rfl
    simp only [Act.put, rg1, rg2, rg3, rg4, rg6]
    refine rgY 1 ?_ rfl (by kernel_rfl) (fun _ _ _ h => h) (.inl ⟨by rfl, fun w hSw => ?_⟩) (by assumption) ?_
    rotate_left
    · (try dsimp only at hSw); go_simp; try with_reducible rfl
    simp only [Act.put, rg1, rg2, rg3, rg4, rg5, rg6]
    refine rgY 3 ?_ rfl (by kernel_rfl) (fun _ _ _ h => h) (.inl ⟨by rfl, fun w hSw => ?_⟩) (by assumption) ?_
    rotate_left
    · (try dsimp only at hSw); go_simp; try with_reducible rfl
    simp only [Act.put, rg1, rg2, rg3, rg4, rg5, rg6]
    refine rgY 4 ?_ rfl (by kernel_rfl) (fun _ _ _ h => h) (.inl ⟨by rfl, fun w hSw => ?_⟩) (by assumption) ?_
    rotate_left
    · (try dsimp only at hSw); go_simp; try with_reducible rfl
    simp only [Act.put, rg1, rg2, rg3, rg4, rg5, rg6]
    refine rgY 6 ?_ rfl (by kernel_rfl) (fun _ _ _ h => h) (.inl ⟨by rfl, fun w hSw => ?_⟩) (by assumption) ?_
    rotate_left
    · (try dsimp only at hSw); go_simp; try with_reducible rfl
    simp only [Act.put, rg1, rg2, rg3, rg4, rg5, rg6]
    refine rgY 7 ?_ rfl (by kernel_rfl) (fun _ _ _ h => h) (.inl ⟨by rfl, fun w hSw => ?_⟩) (by assumption) ?_
    rotate_left
    · (try dsimp only at hSw); go_simp; try with_reducible rfl
    simp only [Act.put, rg1, rg2, rg3, rg4, rg5, rg6]
    refine wpAnyH_ready (rs := [2]) (by kernel_rfl) (by simp) ?_
    refine AllReadyH.cons rfl (fun K hK => ?_) AllReadyH.nil
    simp only [List.getElem_toArray, List.getElem_cons_succ, List.getElem_cons_zero]
    go_simp
    refine (put_s 4 s _).mono ?_
    rintro e w2 ⟨a2, n2, d2, rfl, hp2, hb2⟩
    have hd2 := hd.next hb2
    have hB2 : Below w.heap.size w w2 := (below_drewN hB1 1).trans (hb2.mono (Nat.le_of_lt hd.lt))
    have hq2 : Pin w2 ap np cp (padF x 56) := (hp1.drewN 1).next hb2
    clear hd hB1 hp1 hb2 h1
    go_wp2_with (fail)
    refine hK.out _ _ ⟨hd2.c0, hd2.c1, hd2.c2⟩ (fun hHeld => ?_)
    clear hK K
    refine wpAnyH_ready (rs := [5]) (by kernel_rfl) (by simp) ?_
    refine AllReadyH.cons rfl (fun K hK => ?_) AllReadyH.nil
    simp only [List.getElem_toArray, List.getElem_cons_succ, List.getElem_cons_zero]
    go_simp
    refine (put_s 2 o _).mono ?_
    rintro e w3 ⟨a3, n3, d3, rfl, hp3, hb3⟩
    have hd3 := hd2.next hb3
    have hB3 := hB2.trans (hb3.mono (Nat.le_of_lt hd2.lt))
    have hq3 := hq2.next hb3
    have hp2 := hp2.next hb3
    clear hd2 hB2 hq2 hb3
    go_wp2_with (fail)
    refine hK.out _ _ ⟨hd3.c0, hd3.c1, hd3.c2⟩ (fun hHeld => ?_)
    clear hK K
    refine wpAnyH_ready (rs := [8]) (by kernel_rfl) (by simp) ?_
    refine AllReadyH.cons rfl (fun K hK => ?_) AllReadyH.nil
    simp only [List.getElem_toArray, List.getElem_cons_succ, List.getElem_cons_zero]
    go_simp
    refine (put_s 2 i _).mono ?_
    rintro e w4 ⟨a4, n4, d4, rfl, hp4, hb4⟩
    have hd4 := hd3.next hb4
    have hB4 := hB3.trans (hb4.mono (Nat.le_of_lt hd3.lt))
    have hq4 := hq3.next hb4
    have hp2 := hp2.next hb4
    have hp3 := hp3.next hb4
    clear hd3 hB3 hq3 hb4
    go_wp2_with (fail)
    refine hK.out _ _ ⟨hd4.c0, hd4.c1, hd4.c2⟩ (fun hHeld => ?_)
    clear hK K
    refine wpAnyH_ready (rs := [9]) (by kernel_rfl) (by simp) ?_
    refine AllReadyH.cons rfl (fun K hK => ?_) AllReadyH.nil
    simp only [List.getElem_toArray, List.getElem_cons_succ, List.getElem_cons_zero]
    go_simp
    have hd5 := hd4.alloc (.cells #[.slice a2 n2 d2, .slice a3 n3 d3, .slice a4 n4 d4] 42 (0, 0))
    refine hK.out _ _ ⟨hd5.c0, hd5.c1, hd5.c2⟩ (fun hHeld => ?_)
    clear hK K
    refine wpAnyH_ready (rs := [10]) (by kernel_rfl) (by simp) ?_
    refine AllReadyH.cons rfl (fun K hK => ?_) AllReadyH.nil
    simp only [List.getElem_toArray, List.getElem_cons_succ, List.getElem_cons_zero]
    go_simp
    have hcl : (catL (row3 ⟨a2, n2, d2, putL 4 s⟩ ⟨a3, n3, d3, putL 2 o⟩ ⟨a4, n4, d4, putL 2 i⟩) 3).length ≤ 1000000000000 := by
      rw [catL_three]; have := (headL_len s o i).1; unfold headL at this; simp only [] at *; omega
    refine (concat_any _ 3 3 _ _ (rws_three hp2 hp3 hp4) (by omega) hcl).mono ?_
    rintro e w6 ⟨v6, rfl, ho6, hb6⟩
    rw [catL_three] at ho6
    have hh6 : (headL s o i).length ≤ 8 ∧ ((headL s o i).length = 8 ↔ okH s o i = true) := headL_len s o i
    have ho6' : Own w6 (w4.alloc (.cells #[.slice a2 n2 d2, .slice a3 n3 d3, .slice a4 n4 d4] 42 (0, 0))).heap.size v6 (headL s o i).length (headL s o i) := ho6
    clear ho6
    obtain ⟨n6, hn6⟩ : ∃ m, m = (headL s o i).length := ⟨_, rfl⟩
    rw [← hn6] at ho6' hh6
    obtain ⟨a6, d6, rfl, hp6, _⟩ := ho6'.pin
    have hd6 := hd5.next hb6
    have hB6 : Below w.heap.size w w6 := (hB4.alloc (Nat.le_of_lt hd4.lt) _).trans (hb6.mono (by have := hd4.lt; simp; omega))
    have hq6 := (hq4.alloc (.cells #[.slice a2 n2 d2, .slice a3 n3 d3, .slice a4 n4 d4] 42 (0, 0))).next hb6
    clear hd5 hd4 hB4 hq4 hb6 hp2 hp3 hp4 hn6 ho6' hcl
    go_wp2_with (fail)
    refine hK.out _ _ ⟨hd6.c0, hd6.c1, hd6.c2⟩ (fun hHeld => ?_)
    clear hK K
    refine rgY 11 ?_ rfl (by kernel_rfl) (fun _ _ _ h => h) (.inl ⟨by rfl, fun w hSw => ?_⟩) (by assumption) ?_
    rotate_left
    · (try dsimp only at hSw); go_simp; try with_reducible rfl
    simp only [Act.put, rg1, rg2, rg3, rg4, rg5, rg6]
    refine wpAnyH_done (by kernel_rfl) ?_ _
    by_cases h8 : n6 = 8
    · subst h8
      have hL : Hid (encO s o i x = true) := by show _ = _; simp [encO, HXL.out, hn, hh6.2.1 rfl]
      have hF : Hid (padF x 56 = padL x 56) := by show _ = _; unfold padF; rw [HXL.out, ho]; rfl
      have hlow := hd6.lt
      clear hh6 hd6 ho
      go_wp2_with (fail)
      have hcl : (catL (row2 ⟨a6, 8, d6, headL s o i⟩ ⟨ap, np, cp, padF x 56⟩) 2).length ≤ 1000000000000 := by
        rw [catL_two, List.length_append]; simp only []; rw [hp6.len, hF.out, padL_len (by rw [HXL.out]; omega)]; omega
      refine (concat_any _ 2 2 _ _ (rws_two hp6 hq6) (by omega) hcl).mono ?_
      rintro e w8 ⟨v8, rfl, ho8, hb8⟩
      rw [catL_two] at ho8
      have hB8 : Below w.heap.size w w8 := (hB6.alloc (Nat.le_of_lt hlow) _).trans (hb8.mono (by simp; omega))
      obtain ⟨a8, d8, rfl, hp8, hnew⟩ := ho8.pin
      have hs6 := hB6.size
      clear hcl hp6 hq6 hB6 hb8 ho8
      go_wp2_with (fail)
      go_ret2
      rw [encL, hL.out]
      refine ⟨_, _, _, rfl, ?_, (fun x hx => by have := (hnew x hx).1; simp at this; omega), hB8⟩
      rw [← hF.out, if_pos rfl, ← List.length_append]
      exact hp8
    · have hL : Hid (encO s o i x = false) := by
        show _ = _
        have : okH s o i = false := by
          cases hk : okH s o i
          · rfl
          · exact absurd (hh6.2.2 hk) h8
        simp [encO, this]
      have h8' : ((n6 : Int) != 8) = true := by simp; omega
      clear hh6 h8
      go_wp2_with (fail)
      go_ret2
      rw [encL, hL.out]
      exact ⟨_, _, _, rfl, Pin.zero _, (fun x h => by cases h), hB6⟩
  · have ho : padO n 56 = false := by simp only [padO, decide_eq_false_iff_not]; omega
    have hL : Hid (encO s o i x = false) := by show _ = _; simp [encO, HXL.out, hn]
    rw [ho]
    go_wp2_with (fail)
    go_ret2
    rw [encL, hL.out]
    exact ⟨_, _, _, rfl, Pin.zero _, (fun x h => by cases h), hB1⟩

end Go.Proofs.YtegmeoghonolcaaGreat

/-
  The program's Decode, by contract.
-/
namespace Go.Proofs.YtegmeoghonolcaaGreat
open Go.RowKit

def decO (x : List Int) : Bool := decide (x.length = 64)
def decN (x : List Int) (p m : Nat) : Int := if decO x then getN x p m else 0
def decL (x : List Int) : List Int := if decO x then x.drop 8 else []
/-- What Decode answers. -/
def DecPost (w0 : World) (x : List Int) (e : Ending) (w' : World) : Prop :=
  ∃ a n c, e = .returned (.tuple #[hv (decN x 0 4) (decN x 4 2) (decN x 6 2), .slice a n c, .bool (decO x)]) ∧ Pin w' a n c (decL x) ∧ Below w0.heap.size w0 w'

/-- .. and its payload is new. -/
def DecNew (w0 : World) (x : List Int) (e : Ending) (w' : World) : Prop :=
  ∃ a n c, e = .returned (.tuple #[hv (decN x 0 4) (decN x 4 2) (decN x 6 2), .slice a n c, .bool (decO x)]) ∧ Pin w' a n c (decL x) ∧ (∀ y, a = some y → w0.heap.size ≤ y.block) ∧ Below w0.heap.size w0 w'
theorem DecNew.t {w0 w' : World} {x : List Int} {e : Ending} (h : DecNew w0 x e w') : DecPost w0 x e w' := by
  obtain ⟨a, n, c, h1, h2, _, h3⟩ := h
  exact ⟨a, n, c, h1, h2, h3⟩

/-- A head's cells of the call's own, free to be written. -/
structure Rc (w : World) (b : Nat) : Prop where
  lt : b < w.heap.size
  c0 : ∃ v, w.cell? ⟨b, 0, none⟩ = some v
  c1 : ∃ v, w.cell? ⟨b, 1, none⟩ = some v
  c2 : ∃ v, w.cell? ⟨b, 2, none⟩ = some v
  f0 : w.frozen? ⟨b, 0, none⟩ = false
  f1 : w.frozen? ⟨b, 1, none⟩ = false
  f2 : w.frozen? ⟨b, 2, none⟩ = false
theorem Rc.mk' (w : World) (t : TypeId) : Rc (w.alloc (.cells #[.int .i64 0, .int .i64 0, .int .i64 0] t (0, 0))) w.heap.size :=
  ⟨by simp, ⟨_, by simp; rfl⟩, ⟨_, by simp; rfl⟩, ⟨_, by simp; rfl⟩, by go_simp, by go_simp, by go_simp⟩
theorem Rc.next {w w' : World} {b : Nat} (h : Rc w b) (hb : Below w.heap.size w w') : Rc w' b := by
  have hl := h.lt
  obtain ⟨x, hx⟩ := h.c0
  obtain ⟨y, hy⟩ := h.c1
  obtain ⟨z, hz⟩ := h.c2
  exact ⟨Nat.lt_of_lt_of_le hl hb.size, ⟨x, (hb.cell (p := ⟨b, 0, none⟩) hl).trans hx⟩, ⟨y, (hb.cell (p := ⟨b, 1, none⟩) hl).trans hy⟩, ⟨z, (hb.cell (p := ⟨b, 2, none⟩) hl).trans hz⟩,
    (hb.frozen (p := ⟨b, 0, none⟩) hl).trans h.f0, (hb.frozen (p := ⟨b, 1, none⟩) hl).trans h.f1, (hb.frozen (p := ⟨b, 2, none⟩) hl).trans h.f2⟩
theorem Rc.alloc {w : World} {b : Nat} (h : Rc w b) (o : Obj) : Rc (w.alloc o) b := h.next ((Below.refl _ _).alloc (Nat.le_refl _) o)
theorem Rc.drew {w : World} {b : Nat} (h : Rc w b) : Rc w.drew b := ⟨h.lt, h.c0, h.c1, h.c2, h.f0, h.f1, h.f2⟩

theorem set_oth {w : World} {a b : Addr} {v : Value} (h : a ≠ b) : (w.setCell a v).cell? b = w.cell? b := World.cell?_setCell_other _ _ _ _ h
theorem set_same {w : World} {a : Addr} {v u : Value} (h : w.cell? a = some u) : (w.setCell a v).cell? a = some v := World.cell?_setCell_same _ _ _ h
/-- A head is stored into block b. -/
def setH (w : World) (b : Nat) (p q r : Int) : World := ((w.setCell ⟨b, 0, none⟩ (.int .i64 p)).setCell ⟨b, 1, none⟩ (.int .i64 q)).setCell ⟨b, 2, none⟩ (.int .i64 r)
theorem Rc.set {w : World} {b : Nat} (h : Rc w b) (p q r : Int) : Hx (setH w b p q r) b p q r := by
  obtain ⟨x, hx⟩ := h.c0
  obtain ⟨y, hy⟩ := h.c1
  obtain ⟨z, hz⟩ := h.c2
  refine ⟨by simpa [setH] using h.lt, ?_, ?_, ?_⟩
  · rw [setH, set_oth (by simp), set_oth (by simp), set_same hx]
  · rw [setH, set_oth (by simp), set_same ((set_oth (by simp)).trans hy)]
  · rw [setH, set_same ((set_oth (by simp)).trans ((set_oth (by simp)).trans hz))]
theorem setH_other {w : World} {b : Nat} (p q r : Int) {x : Addr} (h : b ≠ x.block) : (setH w b p q r).cell? x = w.cell? x := by
  have : ∀ k, (⟨b, k, none⟩ : Addr) ≠ x := fun k e => h (by rw [← e])
  rw [setH, set_oth (this 2), set_oth (this 1), set_oth (this 0)]
theorem Hx.setOther {w : World} {b b' : Nat} {p q r s o i : Int} (h : Hx w b' s o i) (hne : b ≠ b') : Hx (setH w b p q r) b' s o i :=
  ⟨by simpa [setH] using h.lt, (setH_other p q r hne).trans h.c0, (setH_other p q r hne).trans h.c1, (setH_other p q r hne).trans h.c2⟩
theorem Own.setH {w : World} {B b : Nat} {p q r : Int} {v : Value} {n : Nat} {zs : List Int} (h : Own w B v n zs) (hb : b < B) : Own (setH w b p q r) B v n zs := ((h.setLow (p := ⟨b, 0, none⟩) hb _).setLow (p := ⟨b, 1, none⟩) hb _).setLow (p := ⟨b, 2, none⟩) hb _
theorem _root_.Go.RowKit.Below.setH {w0 w : World} {B b : Nat} {p q r : Int} (h : Below B w0 w) (hb : B ≤ b) : Below B w0 (setH w b p q r) := ((h.setCell (p := ⟨b, 0, none⟩) hb _).setCell (p := ⟨b, 1, none⟩) hb _).setCell (p := ⟨b, 2, none⟩) hb _

set_option maxHeartbeats 1000000 in
theorem dec_no (a : Option Addr) (n c : Nat) (x : List Int) (w : World) (hx : Pin w a n c x) (hn : n ≠ 64) :
    Calls Tryz.prog 83 #[.slice a n c] w (DecNew w x) := by
  have ho : Hid (decO x = false) := by show _ = _; simp [decO, hx.len, hn]
  have hi : is64 n = false := by simp [is64, hn]
  clear hx hn
  go_enter Tryz.func83, Tryz.ntmps83
  go_wp2_with (fail)
  refine (isSector_any a n c _).mono ?_
  rintro e w1 ⟨rfl, rfl⟩
  rw [hi]
  go_wp2_with (fail)
  exact bodyPost_ret (v := .tuple #[hv 0 0 0, .slice none 0 0, .bool false]) (by simp [results, Tryz.results83, go_sem]) rfl (by
    rw [DecNew, decN, decN, decN, decL, ho.out]
    exact ⟨_, _, _, rfl, Pin.zero _, (fun y hy => by cases hy), ((Below.refl _ _).alloc (Nat.le_refl _) _)⟩)

set_option maxHeartbeats 1000000 in
theorem dec_yes (a : Option Addr) (c : Nat) (x : List Int) (w : World) (hx : Pin w a 64 c x) :
    Calls Tryz.prog 83 #[.slice a 64 c] w (DecNew w x) := by
  have ho : Hid (decO x = true) := by show _ = _; simp [decO, hx.len]
  have hi : is64 64 = true := rfl
  obtain ⟨b, off, rfl, hlt, _⟩ := hx.at (by omega)
  have hcap := hx.cap
  have hmax := hx.max
  have hc8 : ¬ c = 8 := by omega
  go_enter Tryz.func83, Tryz.ntmps83
  go_wp2_with (fail)
  refine (isSector_any _ 64 c _).mono ?_
  rintro e w1 ⟨rfl, rfl⟩
  rw [hi]
  clear hi
  have hx1 := hx.alloc (.cells #[.int .i64 0, .int .i64 0, .int .i64 0] 102 (0, 0))
  go_wp2_with (fail)
  refine (number_any _ 64 c 0 4 x _ hx1.bys (by omega) (by omega) (by omega) (by omega)).mono ?_
  rintro e w1 ⟨rfl, rfl⟩
  go_wp2_with (fail)
  refine (number_any _ 64 c 4 2 x _ hx1.bys (by omega) (by omega) (by omega) (by omega)).mono ?_
  rintro e w1 ⟨rfl, rfl⟩
  go_wp2_with (fail)
  refine (number_any _ 64 c 6 2 x _ hx1.bys (by omega) (by omega) (by omega) (by omega)).mono ?_
  rintro e w1 ⟨rfl, rfl⟩
  go_wp2_with (fail)
  obtain ⟨p, hp⟩ : ∃ p, p = getN x 0 4 := ⟨_, rfl⟩
  obtain ⟨q, hq⟩ : ∃ p, p = getN x 4 2 := ⟨_, rfl⟩
  obtain ⟨r, hr⟩ : ∃ p, p = getN x 6 2 := ⟨_, rfl⟩
  rw [← hp, ← hq, ← hr]
  obtain ⟨w2, hw2⟩ : ∃ w2, w2 = (w.alloc (.cells #[.int .i64 0, .int .i64 0, .int .i64 0] 102)).alloc (.cells #[.int .i64 p, .int .i64 q, .int .i64 r] 102) := ⟨_, rfl⟩
  have hd : Hx w2.drew (w.heap.size + 1) p q r := by rw [hw2]; have := Hx.mk' (w.alloc (.cells #[.int .i64 0, .int .i64 0, .int .i64 0] 102)) p q r 102; simpa using this.drew
  have hz : Rc w2.drew w.heap.size := by rw [hw2]; exact ((Rc.mk' w 102).alloc _).drew
  have hx2 : Pin w2.drew (some ⟨b, off, none⟩) 64 c x := by rw [hw2]; exact (hx1.alloc _).drewN 1
  have hB2 : Below w.heap.size w w2.drew := by rw [hw2]; exact below_drewN (((Below.refl _ _).alloc (Nat.le_refl _) _).alloc (by simp) _) 1
  have hB2s : Hid (w.heap.size ≤ w2.drew.heap.size) := hB2.size
  rw [← hw2]
  clear hw2 hx hx1
  have hc0 := hd.c0
  have hc1 := hd.c1
  have hc2 := hd.c2
  have hP := Lib.hid hp
  have hQ := Lib.hid hq
  have hR := Lib.hid hr
  clear hp hq hr
  refine wp_region_held_drew (S := (fun w' => w'.cell? ⟨w.heap.size + 1, 0, none⟩ = some (.int .i64 p) ∧ w'.cell? ⟨w.heap.size + 1, 1, none⟩ = some (.int .i64 q) ∧ w'.cell? ⟨w.heap.size + 1, 2, none⟩ = some (.int .i64 r))) (by kernel_rfl) ?_ (fun hHeld => ?_)
  · exact ⟨hc0, hc1, hc2⟩
  refine rgY 0 ?_ rfl (by kernel_rfl) (fun _ _ _ h => h) (.inl ⟨by rfl, fun w hSw => ?_⟩) (by assumption) ?_
  rotate_left
  · (try dsimp only at hSw); go_simp; try with_reducible rfl
  simp only [Act.put, rg1, rg2, rg3, rg4, rg6]
  refine rgY 1 ?_ rfl (by kernel_rfl) (fun _ _ _ h => h) (.inl ⟨by rfl, fun w hSw => ?_⟩) (by assumption) ?_
  rotate_left
  · (try dsimp only at hSw); go_simp; try with_reducible rfl
  simp only [Act.put, rg1, rg2, rg3, rg4, rg5, rg6]
  refine rgY 2 ?_ rfl (by kernel_rfl) (fun _ _ _ h => h) (.inl ⟨by rfl, fun w hSw => ?_⟩) (by assumption) ?_
  rotate_left
  · (try dsimp only at hSw); go_simp; try with_reducible rfl
  simp only [Act.put, rg1, rg2, rg3, rg4, rg5, rg6]
  refine wpAnyH_ready (rs := [3]) (by kernel_rfl) (by simp) ?_
  refine AllReadyH.cons rfl (fun K hK => ?_) AllReadyH.nil
  simp only [List.getElem_toArray, List.getElem_cons_succ, List.getElem_cons_zero]
  go_simp
  refine (cloneP_any _ 56 (c - 8) (x.drop 8) _ (hx2.rest 8) (by omega)).mono ?_
  rintro e w3 ⟨v3, rfl, ho3, hb3⟩
  have hd3 := hd.next hb3
  have hz3 := hz.next hb3
  have hB3 := hB2.trans (hb3.mono hB2.size)
  have hz2lt := hz.lt
  clear hd hz hB2 hb3 hx2
  obtain ⟨v0, z0⟩ := hz3.c0
  obtain ⟨v1, z1⟩ := hz3.c1
  obtain ⟨v2, z2⟩ := hz3.c2
  have f0 := hz3.f0
  have f1 := hz3.f1
  have f2 := hz3.f2
  go_wp2_with (fail)
  refine hK.out _ _ ⟨hd3.c0, hd3.c1, hd3.c2⟩ (fun hHeld => ?_)
  clear hK K
  refine wpAnyH_ready (rs := [4]) (by kernel_rfl) (by simp) ?_
  refine AllReadyH.cons rfl (fun K hK => ?_) AllReadyH.nil
  simp only [List.getElem_toArray, List.getElem_cons_succ, List.getElem_cons_zero]
  go_simp
  have hd4 : Hx (setH w3 w.heap.size p q r) (w.heap.size + 1) p q r := hd3.setOther (by omega)
  have hr4 : Hx (setH w3 w.heap.size p q r) w.heap.size p q r := hz3.set p q r
  have ho4 : Own (setH w3 w.heap.size p q r) w2.drew.heap.size v3 (x.drop 8).length (x.drop 8) := ho3.setH hz2lt
  have hB4 : Below w.heap.size w (setH w3 w.heap.size p q r) := hB3.setH (Nat.le_refl _)
  refine hK.out _ (setH w3 w.heap.size p q r) ⟨hd4.c0, hd4.c1, hd4.c2⟩ (fun hHeld => ?_)
  clear hK K
  obtain ⟨w4, hw4⟩ : ∃ w4, w4 = setH w3 w.heap.size p q r := ⟨_, rfl⟩
  rw [← hw4] at hd4 hr4 ho4 hB4 hHeld ⊢
  clear hw4
  obtain ⟨a4, c4, rfl, hp4, hn4⟩ := ho4.pin
  have HN4 : Hid (∀ y, a4 = some y → w.heap.size ≤ y.block) := fun y hy => by have := (hn4 y hy).1; have := hB2s.out; omega
  refine rgY 5 ?_ rfl (by kernel_rfl) (fun _ _ _ h => h) (.inl ⟨by rfl, fun w hSw => ?_⟩) (by assumption) ?_
  rotate_left
  · (try dsimp only at hSw); go_simp; try with_reducible rfl
  simp only [Act.put, rg1, rg2, rg3, rg4, rg5, rg6]
  refine rgY 6 ?_ rfl (by kernel_rfl) (fun _ _ _ h => h) (.inl ⟨by rfl, fun w hSw => ?_⟩) (by assumption) ?_
  rotate_left
  · (try dsimp only at hSw); go_simp; try with_reducible rfl
  simp only [Act.put, rg1, rg2, rg3, rg4, rg5, rg6]
  refine wpAnyH_done (by kernel_rfl) ?_ _
  go_wp2_with (fail)
  have g0 := hr4.c0
  have g1 := hr4.c1
  have g2 := hr4.c2
  exact bodyPost_ret (v := .tuple #[hv p q r, .slice a4 (x.drop 8).length c4, .bool true]) (by simp [results, Tryz.results83, go_sem, g0, g1, g2]) rfl (by
    rw [DecNew, decN, decN, decN, decL, ho.out, ← hP.out, ← hQ.out, ← hR.out]
    exact ⟨_, _, _, rfl, hp4, HN4.out, hB4⟩)

end Go.Proofs.YtegmeoghonolcaaGreat

/-
  Have all of a row one Seq: the program's question, by contract.
-/
namespace Go.Proofs.YtegmeoghonolcaaGreat
open Go.RowKit

theorem quiet_left {P : Program} {f : FuncId} {args : Array Value} {w : World} {n : Nat} {v : Value}
    (h : Calls P f args (w.drewN n) fun e w' => e = .returned v ∧ w.drewN n = w') : Calls P f args (w.drewN n) fun e w'' => e = .returned v ∧ ∃ m, w'' = w.drewN m :=
  h.mono fun _ _ ⟨he, hm⟩ => ⟨he, n, hm.symm⟩
/-- The first k have 64 bytes and the first one's Seq. -/
def oneUpto (f : Nat → Pc) : Nat → Bool
  | 0 => true
  | k + 1 => oneUpto f k && (is64 (f k).zs.length && sameB ((f k).zs.take 4) ((f 0).zs.take 4))
def oneSeq (f : Nat → Pc) (n : Nat) : Bool := decide (0 < n) && oneUpto f n
theorem oneUpto_le {f : Nat → Pc} {k n : Nat} (h : k ≤ n) (hn : oneUpto f n = true) : oneUpto f k = true := by
  induction n with
  | zero => rw [Nat.le_zero.1 h]; exact hn
  | succ n ih =>
    rcases Nat.lt_or_ge k (n + 1) with h1 | h1
    · exact ih (by omega) (by rw [oneUpto, Bool.and_eq_true] at hn; exact hn.1)
    · rw [Nat.le_antisymm h h1]; exact hn
theorem oneUpto_at {f : Nat → Pc} {k n : Nat} (h : k < n) (hn : oneUpto f n = true) : (f k).zs.length = 64 ∧ (f k).zs.take 4 = (f 0).zs.take 4 := by
  have := oneUpto_le (k := k + 1) h hn
  rw [oneUpto, Bool.and_eq_true, Bool.and_eq_true] at this
  exact ⟨by simpa [is64] using this.2.1, by simpa [sameB] using this.2.2⟩
theorem oneUpto_of {f : Nat → Pc} {n : Nat} (h : ∀ k, k < n → (f k).zs.length = 64 ∧ (f k).zs.take 4 = (f 0).zs.take 4) : oneUpto f n = true := by
  induction n with
  | zero => rfl
  | succ n ih =>
    rw [oneUpto, ih fun k hk => h k (by omega)]
    have := h n (by omega)
    simp [is64, sameB, this.1, this.2]
theorem oneSeq_no {f : Nat → Pc} {k n : Nat} (h : k ≤ n) (hk : oneUpto f k = false) : oneSeq f n = false := by
  cases hn : oneUpto f n
  · simp [oneSeq, hn]
  · rw [oneUpto_le h hn] at hk; cases hk

def OneRel (f : Nat → Pc) (w0 : World) (n : Nat) (v : Value) (w : World) : Prop := ∃ k : Nat, k ≤ n ∧ v = .int .i64 k ∧ oneUpto f k = true ∧ ∃ q, w = w0.drewN q

theorem isSector_no (a : Option Addr) (n c : Nat) (w : World) (h : n ≠ 64) : Calls Tryz.prog 123 #[.slice a n c] w fun e w' => e = .returned (.bool false) ∧ w = w' := by
  have := isSector_any a n c w
  rwa [show is64 n = false by simp [is64, h]] at this
theorem isSector_yes (a : Option Addr) (c : Nat) (w : World) : Calls Tryz.prog 123 #[.slice a 64 c] w fun e w' => e = .returned (.bool true) ∧ w = w' := isSector_any a 64 c w

set_option maxHeartbeats 2000000 in
theorem one_any (a : Option Addr) (n c : Nat) (f : Nat → Pc) (w : World) (h : Rws w a n f) (hn : n ≤ 9223372036854775807) :
    Calls Tryz.prog 138 #[.slice a n c] w fun e w' => e = .returned (.bool (oneSeq f n)) ∧ Below w.heap.size w w' := by
  go_enter Tryz.func138, Tryz.ntmps138
  go_wp2_with (fail)
  go_loopw [4, 7] (fun _s v wr => OneRel f w n v wr) (fun _ v _ => n - (RowKit.intOf v).toNat)
  case atStart => exact ⟨0, by omega, rfl, rfl, 0, rfl⟩
  case round =>
    obtain ⟨k, hk, rfl, hone, q, hq⟩ := hrel
    have hb : Below w.heap.size w wr := by rw [hq]; exact below_drewN (Below.refl _ _) q
    have HQ := Lib.hid hq
    have HO := Lib.hid hone
    clear hq hone
    have hr := h.next hb
    by_cases hlt : k < n
    · obtain ⟨b, off, x, m, d, zs, rfl, hbl, hc, hp, hz, hm⟩ := hr.at hlt
      obtain ⟨b', off', x0, m0, d0, zs0, e0, _, hc0, hp0, hz0, hm0⟩ := hr.at (i := 0) (by omega)
      cases e0
      rw [Nat.add_zero] at hc0
      have HZ := Lib.hid hz
      have HZ0 := Lib.hid hz0
      have HP := Lib.hid hp
      have HP0 := Lib.hid hp0
      have hmd := hp.cap
      have hmd2 := hp.max
      have hmd0 := hp0.cap
      have hmd02 := hp0.max
      clear hz hz0 hp hp0 hm hm0 hr
      have hk0 : (0 : Int) ≤ (k : Int) := by omega
      have hk1 : (k : Int) < (n : Int) := by omega
      have hn0 : 0 < n := by omega
      by_cases hm : m = 64
      · subst hm
        have hzl : zs.length = 64 := HP.out.len
        have h064 : zs0.length = 64 := by
          rcases Nat.eq_zero_or_pos k with h0 | h0
          · rw [← HZ0.out, ← h0, HZ.out, hzl]
          · rw [← HZ0.out]; exact (oneUpto_at (k := 0) h0 HO.out).1
        have hm0 : m0 = 64 := by rw [← HP0.out.len, h064]
        subst hm0
        have hstep : Hid (oneUpto f (k + 1) = sameB (zs.take 4) (zs0.take 4)) := by
          show _ = _
          rw [oneUpto, HO.out, HZ.out, HZ0.out, hzl]
          simp [is64]
        have hnx := Lib.hid HP.out.nil
        have hnx0 := Lib.hid HP0.out.nil
        clear hzl h064
        cases hsb : sameB (zs.take 4) (zs0.take 4)
        · have HE : Hid (∀ q, Calls Tryz.prog 66 #[.slice x 4 d, .slice x0 4 d0] (wr.drewN q) fun e w' => e = .returned (.bool false) ∧ wr.drewN q = w') := by
            show ∀ q, _
            intro q
            have := equal_any x x0 4 d 4 d0 _ _ (wr.drewN q) ((HP.out.drewN q).bys.front (k := 4) (by omega)) ((HP0.out.drewN q).bys.front (k := 4) (by omega))
            rwa [hsb] at this
          have hstp : Hid (oneUpto f (k + 1) = false) := by show _ = _; rw [hstep.out, hsb]
          clear hsb
          go_wp2_with (fail)
          go_quiet (first
            | (go_at_call 123; exact quiet_left (isSector_yes _ _ _))
            | (go_at_call 141; exact quiet_left (seqOf_any _ 64 _ _ (by omega) (by omega) (by first | exact hnx.out | exact hnx0.out)))
            | (go_at_call 66; exact quiet_left (HE.out _)))
          go_wp2_with (fail)
          go_ret
          exact ⟨ret_bool (oneSeq_no hlt hstp.out).symm, by first | exact below_drewN hb _ | exact hb⟩
        · have HE : Hid (∀ q, Calls Tryz.prog 66 #[.slice x 4 d, .slice x0 4 d0] (wr.drewN q) fun e w' => e = .returned (.bool true) ∧ wr.drewN q = w') := by
            show ∀ q, _
            intro q
            have := equal_any x x0 4 d 4 d0 _ _ (wr.drewN q) ((HP.out.drewN q).bys.front (k := 4) (by omega)) ((HP0.out.drewN q).bys.front (k := 4) (by omega))
            rwa [hsb] at this
          have hstp : Hid (oneUpto f (k + 1) = true) := by show _ = _; rw [hstep.out, hsb]
          clear hsb
          go_wp2_with (fail)
          go_quiet (first
            | (go_at_call 123; exact quiet_left (isSector_yes _ _ _))
            | (go_at_call 141; exact quiet_left (seqOf_any _ 64 _ _ (by omega) (by omega) (by first | exact hnx.out | exact hnx0.out)))
            | (go_at_call 66; exact quiet_left (HE.out _)))
          go_wp2_with (fail)
          go_roundw
          case rel => exact ⟨k + 1, by omega, by go_num, hstp.out, q + nq, by rw [HQ.out, World.drewN_drewN]⟩
          case measure => simp [RowKit.intOf]; omega
      · have hno : Hid (oneUpto f (k + 1) = false) := by
          show _ = _
          rw [oneUpto, HZ.out, HP.out.len]
          simp [is64, hm]
        go_wp2_with (fail)
        go_quiet ((go_at_call 123; exact quiet_left (isSector_no _ _ _ _ hm)))
        go_wp2_with (fail)
        go_ret
        exact ⟨ret_bool (oneSeq_no hlt hno.out).symm, by first | exact below_drewN hb _ | exact hb⟩
    · obtain rfl : k = n := by omega
      clear hr
      by_cases h0 : 0 < k
      · have hs : Hid (oneSeq f k = true) := by show _ = _; simp [oneSeq, h0, HO.out]
        go_wp2_with (fail)
        go_ret
        exact ⟨ret_bool hs.out.symm, hb⟩
      · have hs : Hid (oneSeq f k = false) := by show _ = _; simp [oneSeq, h0]
        go_wp2_with (fail)
        go_ret
        exact ⟨ret_bool hs.out.symm, hb⟩

end Go.Proofs.YtegmeoghonolcaaGreat

/-
  The program's Parity and Restore, by contract.
-/
namespace Go.Proofs.YtegmeoghonolcaaGreat
open Go.RowKit

/-- The exclusive or of what is told of the first k. -/
def sumP (f : Nat → Pc) : Nat → List Int
  | 0 => []
  | k + 1 => xorL (sumP f k) ((f k).zs.drop 4)
def parL (f : Nat → Pc) (n : Nat) : List Int := if oneSeq f n then (f 0).zs.take 4 ++ sumP f n else []
theorem sumP_len {f : Nat → Pc} {k n : Nat} (h : k ≤ n) (ho : oneUpto f n = true) : (sumP f k).length ≤ 60 := by
  induction k with
  | zero => exact Nat.zero_le _
  | succ k ih =>
    have := (oneUpto_at (k := k) h ho).1
    rw [sumP, xorL_len, List.length_drop, this]
    have := ih (by omega)
    omega
def ParRel (f : Nat → Pc) (w0 : World) (n : Nat) (u v : Value) (w : World) : Prop :=
  ∃ k a m c, k ≤ n ∧ v = .int .i64 (k : Nat) ∧ u = .slice a m c ∧ Pin w a m c (sumP f k) ∧ m ≤ 60 ∧ Below w0.heap.size w0 w

set_option maxHeartbeats 2000000 in
theorem par_n (a : Option Addr) (n c : Nat) (f : Nat → Pc) (w : World) (h : Rws w a n f) (hn : n ≤ 9223372036854775807) :
    Calls Tryz.prog 104 #[.slice a n c] w (RetN w (parL f n) (oneSeq f n)) := by
  cases ho : oneSeq f n
  · have hf := one_any a n c f w h hn
    rw [ho] at hf
    have hP : Hid (parL f n = []) := by show _ = _; rw [parL, ho]; rfl
    clear ho h
    go_enter Tryz.func104, Tryz.ntmps104
    go_wp2_with (fail)
    refine hf.mono ?_
    rintro e w1 ⟨rfl, hb1⟩
    go_wp2_with (fail)
    go_ret2
    rw [hP.out]
    exact ⟨_, _, _, rfl, Pin.zero _, (fun x h => by cases h), hb1⟩
  · have hf := one_any a n c f w h hn
    rw [ho] at hf
    have ho1 : 0 < n ∧ oneUpto f n = true := by simpa [oneSeq] using ho
    have hP : Hid (parL f n = (f 0).zs.take 4 ++ sumP f n) := by show _ = _; rw [parL, ho]; rfl
    have HO := Lib.hid ho1.2
    have hn0 := ho1.1
    clear ho ho1
    go_enter Tryz.func104, Tryz.ntmps104
    go_wp2_with (fail)
    refine hf.mono ?_
    rintro e w1 ⟨rfl, hb1⟩
    go_wp2_with (fail)
    go_loopw [4, 6, 12] (fun u _s v wr => ParRel f w n u v wr) (fun _ _ v _ => n - (RowKit.intOf v).toNat)
    case atStart => exact ⟨0, none, 0, 0, by omega, rfl, rfl, Pin.zero _, by omega, hb1⟩
    case round =>
      obtain ⟨k, x1, m1, d1, hk, rfl, rfl, hp1, hm1, hb⟩ := hrel
      have hr := h.next hb
      clear hb1
      by_cases hlt : k < n
      · obtain ⟨b, off, x, m, d, zs, rfl, hbl, hc, hp, hz, hm⟩ := hr.at hlt
        have hzl := (oneUpto_at hlt HO.out).1
        rw [hz, hp.len] at hzl
        subst hzl
        obtain ⟨b2, o2, rfl, _, _⟩ := hp.at (by omega)
        have hcap := hp.cap
        have hmax := hp.max
        have HS := Lib.hid (show sumP f (k + 1) = xorL (sumP f k) (zs.drop 4) by rw [← hz]; rfl)
        have HL := Lib.hid (sumP_len (k := k + 1) hlt HO.out)
        have HP := Lib.hid hp
        clear hm hz hp hr
        go_wp2_with (fail)
        refine (toldS_any b2 o2 d wr (by omega) (by omega)).mono ?_
        rintro e w2 ⟨rfl, rfl⟩
        go_wp2_with (fail)
        refine (xor_s _ _ m1 d1 60 (d - 4) _ _ wr hp1.bys (HP.out.rest 4).bys (by omega) (by omega)).mono ?_
        rintro e w2 ⟨x2, m2, d2, rfl, hp2, hb2⟩
        go_wp2_with (fail)
        go_roundw
        case rel => exact ⟨k + 1, x2, m2, d2, by omega, by go_num, rfl, by rw [HS.out]; exact hp2, by rw [← hp2.len, ← HS.out]; exact HL.out, hb.trans (hb2.mono hb.size)⟩
        case measure => simp [RowKit.intOf]; omega
      · obtain rfl : k = n := by omega
        obtain ⟨b, off, x, m, d, zs, rfl, hbl, hc, hp, hz, hm⟩ := hr.at (i := 0) hn0
        rw [Nat.add_zero] at hc
        have hzl := (oneUpto_at hn0 HO.out).1
        rw [hz, hp.len] at hzl
        subst hzl
        obtain ⟨b2, o2, rfl, _, _⟩ := hp.at (by omega)
        have hcap := hp.cap
        have hmax := hp.max
        have HZ := Lib.hid hz
        have HP := Lib.hid hp
        have hsz := hb.size
        clear hm hz hp hr
        go_wp2_with (fail)
        refine (seqOf_any _ 64 d wr (by omega) (by omega) (fun h => by cases h)).mono ?_
        rintro e w2 ⟨rfl, rfl⟩
        go_wp2_with (fail)
        have hq := HP.out.front (k := 4) (by omega) (fun h => by cases h)
        have hcl : (catL (row2 ⟨some ⟨b2, o2, none⟩, 4, d, zs.take 4⟩ ⟨x1, m1, d1, sumP f k⟩) 2).length ≤ 1000000000000 := by
          rw [catL_two, List.length_append]; simp only []; rw [hq.len, hp1.len]; omega
        refine (concat_any _ 2 2 _ _ (rws_two hq hp1) (by omega) hcl).mono ?_
        rintro e w8 ⟨v8, rfl, ho8, hb8⟩
        rw [catL_two] at ho8
        have hB8 : Below w.heap.size w w8 := (hb.alloc hsz _).trans (hb8.mono (by simp; omega))
        have ho8' : Own w8 (wr.alloc (.cells #[.slice (some ⟨b2, o2, none⟩) 4 d, .slice x1 m1 d1] 42)).heap.size v8 (zs.take 4 ++ sumP f k).length (zs.take 4 ++ sumP f k) := ho8
        obtain ⟨n8, hn8⟩ : ∃ m, m = (zs.take 4 ++ sumP f k).length := ⟨_, rfl⟩
        rw [← hn8] at ho8'
        obtain ⟨a8, d8, rfl, hp8, hnew⟩ := ho8'.pin
        clear hcl hp1 hq hb hb8 ho8 ho8' hn8
        go_wp2_with (fail)
        go_ret2
        rw [hP.out, HZ.out]
        exact ⟨_, _, _, rfl, hp8, (fun x hx => by have := (hnew x hx).1; simp at this; omega), hB8⟩
end Go.Proofs.YtegmeoghonolcaaGreat
