/-
  The library's calls on bytes: Equal, Clone, Grow of the nil slice.
-/
import Derived.Test.YtacnhlmhibhlhaaGreatCs
import Derived.Test.YtacnhlmhibhlhaaGreatLay
import Derived.Laws.BytesArg
import Derived.Lib.Bytes
import Derived.Lib.SliceRun
import Derived.Test.YtacnhlmhibhlhaaGreatNa
import Derived.Deep.RegionHeld3
set_option linter.unusedSimpArgs false
set_option linter.unusedVariables false
namespace Go.Proofs.YtacnhlmhibhlhaaGreat
open Go.RowKit

theorem byte_inj {a b : Int} (ha : 0 ≤ a ∧ a ≤ 255) (hb : 0 ≤ b ∧ b ≤ 255) (h : UInt8.ofNat a.toNat = UInt8.ofNat b.toNat) : a = b := by
  have := congrArg UInt8.toNat h
  simp at this
  omega
theorem bytes_inj : ∀ {x y : List Int}, AllB x → AllB y → (x.map fun n => UInt8.ofNat n.toNat) = (y.map fun n => UInt8.ofNat n.toNat) → x = y
  | [], [], _, _, _ => rfl
  | [], _ :: _, _, _, h => by simp at h
  | _ :: _, [], _, _, h => by simp at h
  | a :: x, b :: y, hx, hy, h => by
    simp only [List.map_cons, List.cons.injEq] at h
    rw [byte_inj (hx a List.mem_cons_self) (hy b List.mem_cons_self) h.1, bytes_inj (fun z hz => hx z (List.mem_cons_of_mem _ hz)) (fun z hz => hy z (List.mem_cons_of_mem _ hz)) h.2]
theorem str_same {x y : List Int} (hx : AllB x) (hy : AllB y) : ((strOfNums x).toList == (strOfNums y).toList) = sameB x y := by
  rw [Lib.strOfNums_toList, Lib.strOfNums_toList]
  by_cases h : x = y
  · rw [h, sameB_true rfl, beq_self_eq_true]
  · rw [sameB_false h, beq_eq_false_iff_ne]
    exact fun e => h (bytes_inj hx hy e)
theorem bys_conv {w : World} {a : Option Addr} {n : Nat} {x : List Int} (h : Bys w a n x) (c : Nat) : (convert 42 9 (.slice a n c)).run Tryz.prog w = .ok (.string (strOfNums x)) w := by
  rcases h.place with h0 | ⟨b, off, rfl, _, hc⟩
  · subst h0
    obtain rfl : x = [] := List.eq_nil_of_length_eq_zero h.len
    cases a with
    | none => exact run_convert_bytes_nil (P := Tryz.prog) w 42 5 Tryz.underlying42 Tryz.underlying5 0 c 9 Tryz.underlying9
    | some p =>
      rw [run_convert_bytes_string w 42 9 5 (some p) 0 c Tryz.underlying42 Tryz.underlying5 Tryz.underlying9, run_bytesToString w p 0 c [] (run_loadCells_list (P := Tryz.prog) w p [] (fun j v h => by cases h))]
      rfl
  · exact run_convert_bytes_arg (P := Tryz.prog) w 42 5 Tryz.underlying42 Tryz.underlying5 b off n c x h.len hc 9 Tryz.underlying9

theorem equal_any (a b : Option Addr) (n c m d : Nat) (x y : List Int) (w : World) (hx : Bys w a n x) (hy : Bys w b m y) :
    Calls Tryz.prog 66 #[.slice a n c, .slice b m d] w fun e w' => e = .returned (.bool (sameB x y)) ∧ w = w' := by
  have h1 := bys_conv hx c
  have h2 := bys_conv hy d
  rw [← str_same hx.small hy.small]
  clear hx hy
  go_enter Tryz.func66, Tryz.ntmps66
  go_wp2
  go_ret
  exact ⟨rfl, rfl⟩

theorem cloneP_any (a : Option Addr) (n c : Nat) (x : List Int) (w : World) (hx : Pin w a n c x) (hn : n ≤ 1000000000000) :
    Calls Tryz.prog 125 #[.slice a n c] w (ConPost w x) := by
  have hq : ∀ (w : World) (a : Option Addr) (n c : Nat), (binOp .eql 42 (.slice a n c) (.slice none 0 0)).run Tryz.prog w = .ok (.bool a.isNone) w := fun w a n c => Lib.run_eql_slice_nil w _ _ a n c 0 0 Tryz.underlying42
  cases a with
  | none =>
    obtain ⟨rfl, rfl⟩ := hx.nil rfl
    obtain rfl : x = [] := List.eq_nil_of_length_eq_zero hx.len
    clear hx
    go_enter Tryz.func125, Tryz.ntmps125
    go_wp2
    go_ret
    exact ⟨_, rfl, ⟨World.ownsRow_nil _ _ _ _, fun z hz => by cases hz⟩, Below.refl _ _⟩
  | some p =>
    go_enter Tryz.func125, Tryz.ntmps125
    go_wp2_with (at_builtin; go_must (refine wpList_ap rfl (.tmp 5) (.tmp 6) rfl w.heap.size _ 0 [] rfl (own_none w w.heap.size (Nat.le_refl _)) (some p) n c x rfl (hx.bys.below (Nat.le_refl _) ((Below.refl _ _).alloc (Nat.le_refl _) _)) (fun h => by cases h) (by omega) (by simp) w ((Below.refl _ _).alloc (Nat.le_refl _) _) ?_); intro v w1 hown1 hb1)
    go_ret
    exact ⟨_, rfl, by rw [hx.len]; simpa using hown1, hb1⟩

/-- Room for n bytes. -/
def GrowPost (w : World) (e : Ending) (w' : World) : Prop := ∃ v, e = .returned v ∧ Own w' w.heap.size v 0 [] ∧ Below w.heap.size w w'
theorem grow_any (n : Nat) (w : World) (hn : n ≤ 1000000000000) : Calls Tryz.prog 171 #[.slice none 0 0, .int .i64 n] w (GrowPost w) := by
  by_cases h0 : n = 0
  · subst h0
    refine (Any8.slices_Grow_room growA none 0 0 0 w (Nat.le_refl _) (by omega) (by omega) (by omega)).mono fun e w' ⟨he, hw⟩ => ?_
    subst he hw
    exact ⟨_, rfl, ⟨World.ownsRow_nil _ _ _ _, fun z hz => by cases hz⟩, Below.refl _ _⟩
  · obtain ⟨i0, hi, hz0, hz1, hz2⟩ := info_parts info8
    refine (Any8.slices_Grow_grow growA i0 (.int .u8 0) hi hz0 (by rw [hz1]; omega) none 0 0 n [] w (Nat.le_refl _) (by omega) (by rw [hz2]; omega) (by omega) (by simp) (fun _ => rfl) (fun a h => by cases h)).mono fun e w' ⟨he, hw⟩ => ?_
    subst he hw
    refine ⟨_, rfl, ⟨World.ownsRow_made w.drew _ _ (Nat.le_refl _) ?_ ?_, fun z hz => by cases hz⟩, ?_⟩
    · exact grownCap_le_maxLen w (0 + n) 0 5 (by unfold maxLen; omega)
    · have h1 : n ≤ grownCap w (0 + n) 0 5 := by have := grownCap_ge w (0 + n) 0 5; omega
      simp only [Array.size_append, List.size_toArray, size_zeroCells, List.length_nil]
      show 0 + (0 + n - 0) * 1 + (grownCap w (0 + n) 0 5 - (0 + n)) * 1 = grownCap w (0 + n) 0 5 * 1
      omega
    · exact (below_drewN (Below.refl _ _) 1).alloc (Nat.le_refl _) _

end Go.Proofs.YtacnhlmhibhlhaaGreat

/-
  The library's Concat of pieces, by contract.
-/
namespace Go.Proofs.YtacnhlmhibhlhaaGreat
open Go.RowKit

/-- The counting loop's relation. -/
def ConRel (f : Nat → Pc) (n : Nat) (u v : Value) : Prop := ∃ k s : Nat, k ≤ n ∧ s = (catL f k).length ∧ v = .int .i64 k ∧ u = .int .i64 s
/-- The gathering loop's relation. -/
def ConRel2 (w0 : World) (f : Nat → Pc) (n : Nat) (u v : Value) (w : World) : Prop :=
  ∃ k s : Nat, k ≤ n ∧ s = (catL f k).length ∧ v = .int .i64 k ∧ Own w w0.heap.size u s (catL f k) ∧ Below w0.heap.size w0 w

set_option maxHeartbeats 1000000 in
theorem concat_any (a : Option Addr) (n c : Nat) (f : Nat → Pc) (w : World) (h : Rws w a n f) (hn : n ≤ 1000000000000) (ht : (catL f n).length ≤ 1000000000000) :
    Calls Tryz.prog 134 #[.slice a n c] w (ConPost w (catL f n)) := by
  have HT := Lib.hid ht
  clear ht
  go_enter Tryz.func134, Tryz.ntmps134
  go_wp2
  go_loop [3, 5, 11] (fun u _p v => ConRel f n u v) (fun _ _ v => n - (RowKit.intOf v).toNat)
  case atStart => exact ⟨0, 0, by omega, rfl, rfl, rfl⟩
  case round =>
    obtain ⟨k, s, hk, hs, rfl, rfl⟩ := hrel
    have hsl : s ≤ 1000000000000 := by have := catL_le f hk; have := HT.out; omega
    have HS := Lib.hid hs
    clear hs
    by_cases hlt : k < n
    · obtain ⟨b, off, x, m, d, zs, rfl, hb, hc, hp, hz, hm⟩ := h.at hlt
      have hl1 : (catL f (k + 1)).length = s + m := by rw [catL_len, hz, hp.len, ← HS.out]
      have hl2 := catL_le f (k := k + 1) (n := n) hlt
      have ht' := HT.out
      have hms : s + m ≤ 1000000000000 := by omega
      have HL := Lib.hid hl1
      clear h hp hz hm hl1 hl2 ht'
      go_wp2
      go_round
      case rel => exact ⟨k + 1, s + m, by omega, HL.out.symm, by go_num, by go_num⟩
      case measure => simp [RowKit.intOf]; omega
    · obtain rfl : k = n := by omega
      go_wp2_with (fail)
      refine (grow_any s w (by omega)).mono ?_
      rintro e w1 ⟨v0, rfl, ho1, hb1⟩
      go_wp2_with (fail)
      go_loopw [6, 8, 27] (fun u _p v wr => ConRel2 w f k u v wr) (fun _ _ v _ => k - (RowKit.intOf v).toNat)
      case atStart => exact ⟨0, 0, by omega, rfl, rfl, ho1, hb1⟩
      case round =>
        obtain ⟨j, s2, hj, hs2, rfl, ho, hbl⟩ := hrel
        have HS2 := Lib.hid hs2
        clear hs2 ho1
        by_cases hlt2 : j < k
        · obtain ⟨b, off, x, m, d, zs, rfl, hb, hc, hp, hz, hm⟩ := (h.next hbl).at hlt2
          have hl1 : (catL f (j + 1)).length = s2 + m := by rw [catL_len, hz, hp.len, ← HS2.out]
          have hl2 := catL_le f (k := j + 1) (n := k) hlt2
          have ht' := HT.out
          have hms : s2 + m ≤ 1000000000000 := by omega
          have HC := Lib.hid (show catL f (j + 1) = catL f j ++ zs by rw [← hz]; rfl)
          have hx := hp.bys
          have hn0 := hp.nil
          have hsz := hbl.size
          have HL := Lib.hid hl1
          clear h hp hz hm hl1 hl2 ht' hb1
          go_wp2_with (at_builtin; go_must (refine wpList_ap rfl (.tmp 31) (.tmp 32) rfl w.heap.size _ s2 _ rfl ho x m d zs rfl hx hn0 (by omega) hsz w hbl ?_); intro v1 w2 hown2 hb2)
          go_roundw
          case rel => exact ⟨j + 1, s2 + m, by omega, HL.out.symm, by go_num, by rw [HC.out]; exact hown2, hb2⟩
          case measure => simp [RowKit.intOf]; omega
        · obtain rfl : j = k := by omega
          clear h hb1
          go_wp2_with (fail)
          go_ret
          exact ⟨_, rfl, by rw [← HS2.out]; exact ho, hbl⟩

end Go.Proofs.YtacnhlmhibhlhaaGreat

/-
  What it is for a call to answer a slice that holds given bytes; worlds of which only some blocks have turned.
-/
namespace Go.Proofs.YtacnhlmhibhlhaaGreat
open Go.RowKit

/-- Of the blocks that were there only those of M have turned. -/
structure Turn (M : Nat → Prop) (w w' : World) : Prop where
  os : w'.os = w.os
  tape : w'.tape = w.tape
  output : w'.output = w.output
  size : w.heap.size ≤ w'.heap.size
  block : ∀ k, k < w.heap.size → ¬ M k → w'.heap[k]? = w.heap[k]?

theorem Turn.refl (M : Nat → Prop) (w : World) : Turn M w w := ⟨rfl, rfl, rfl, Nat.le_refl _, fun _ _ _ => rfl⟩
theorem Turn.trans {M : Nat → Prop} {a b c : World} (h : Turn M a b) (k : Turn M b c) : Turn M a c :=
  ⟨k.os.trans h.os, k.tape.trans h.tape, k.output.trans h.output, Nat.le_trans h.size k.size, fun i hi hm => (k.block i (Nat.lt_of_lt_of_le hi h.size) hm).trans (h.block i hi hm)⟩
theorem Turn.mono {M M' : Nat → Prop} {w w' : World} (h : Turn M w w') (hm : ∀ k, M k → M' k) : Turn M' w w' := ⟨h.os, h.tape, h.output, h.size, fun k hk hn => h.block k hk fun x => hn (hm k x)⟩
theorem Turn.of_below {M : Nat → Prop} {w w' : World} (h : Below w.heap.size w w') : Turn M w w' := ⟨h.os, h.tape, h.output, h.size, fun k hk _ => h.block k hk⟩
theorem Turn.of_grown {M : Nat → Prop} {w w' : World} {b : Nat} (h : w.grownBy w' (some b)) (hb : M b) : Turn M w w' :=
  ⟨h.os, h.tape, h.output, h.size, fun k hk hn => h.block k hk (fun e => by cases e; exact hn hb)⟩
theorem Turn.setCell {M : Nat → Prop} (w : World) {a : Addr} (hb : M a.block) (u : Value) : Turn M w (w.setCell a u) :=
  ⟨rfl, rfl, rfl, by simp [World.setCell], fun k _ hn => Below.heap_setCell w a u k (fun e => hn (e ▸ hb))⟩
theorem turn_set (w : World) (b i : Nat) (u : Value) : Turn (· = b) w (w.setCell ⟨b, i, none⟩ u) := Turn.setCell (M := (· = b)) (a := ⟨b, i, none⟩) w rfl u
theorem Turn.below {M : Nat → Prop} {w w' : World} (h : Turn M w w') {B : Nat} (hB : B ≤ w.heap.size) (hm : ∀ k, M k → B ≤ k) : Below B w w' :=
  ⟨h.os, h.tape, h.output, h.size, fun k hk => h.block k (by omega) fun x => by have := hm k x; omega⟩
theorem Turn.cell {M : Nat → Prop} {w w' : World} (h : Turn M w w') {a : Addr} (hlt : a.block < w.heap.size) (hm : ¬ M a.block) : w'.cell? a = w.cell? a := World.cell?_of_block (w := w) (h.block _ hlt hm)
theorem Turn.frozen {M : Nat → Prop} {w w' : World} (h : Turn M w w') {a : Addr} (hlt : a.block < w.heap.size) (hm : ¬ M a.block) : w'.frozen? a = w.frozen? a := World.frozen?_of_block (w := w) (h.block _ hlt hm)
theorem bys_turn {M : Nat → Prop} {w w' : World} {a : Option Addr} {n : Nat} {zs : List Int} (h : Bys w a n zs) (ht : Turn M w w') (hm : ∀ b off, a = some ⟨b, off, .none⟩ → ¬ M b) : Bys w' a n zs := by
  refine ⟨h.len, h.small, ?_⟩
  rcases h.place with h0 | ⟨b, off, ha, hlt, hc⟩
  · exact .inl h0
  · exact .inr ⟨b, off, ha, Nat.lt_of_lt_of_le hlt ht.size, fun i hi => (ht.cell (a := ⟨b, off + i, .none⟩) hlt (hm b off ha)).trans (hc i hi)⟩
theorem Blk.turn {M : Nat → Prop} {w w' : World} {g : Nat} {zs : List Int} (h : Blk w g zs) (ht : Turn M w w') (hm : ¬ M g) : Blk w' g zs := ⟨(ht.block g h.lt hm).trans h.row⟩

/-- A block of cells of one cell each. -/
theorem cells_set {w : World} {g i : Nat} {cs : Array Value} {t : TypeId} {u : Value} (h : w.heap[g]? = some (.cells cs t (0, 0))) : (w.setCell ⟨g, i, none⟩ u).heap[g]? = some (.cells (cs.setIfInBounds i u) t (0, 0)) :=
  heap_setCell_same w g i _ _ _ h

end Go.Proofs.YtacnhlmhibhlhaaGreat

/-
  Put, Get, Xor and Pad, each by one contract for every input.
-/
namespace Go.Proofs.YtacnhlmhibhlhaaGreat
open Go.RowKit

/-- What Get answers. -/
def getO (la : Nat) (p k : Int) : Bool := decide ((1 ≤ k ∧ k ≤ 4) ∧ 0 ≤ p ∧ p ≤ la - k)
def getV (la : Nat) (x : List Int) (p k : Int) : Int := if getO la p k then getN x p.toNat k.toNat else 0
theorem get_fun (a : Option Addr) (la ca : Nat) (p k : Int) (x : List Int) (w : World) (hx : Bys w a la x) (hn : la ≤ 1000000000000) :
    Calls Tryz.prog 112 #[.slice a la ca, .int .i64 p, .int .i64 k] w fun e w' => e = .returned (.tuple #[.int .i64 (getV la x p k), .bool (getO la p k)]) ∧ w = w' := by
  by_cases h : (1 ≤ k ∧ k ≤ 4) ∧ 0 ≤ p ∧ p ≤ la - k
  · have ho : getO la p k = true := by simp only [getO, decide_eq_true_eq]; exact h
    obtain ⟨m, rfl⟩ := Int.eq_ofNat_of_zero_le (by omega : 0 ≤ k)
    obtain ⟨q, rfl⟩ := Int.eq_ofNat_of_zero_le h.2.1
    rw [getV, if_pos ho, ho]
    exact get_yes a la ca q m x w hx hn (by omega) (by omega) (by omega)
  · have ho : getO la p k = false := by simp only [getO, decide_eq_false_iff_not]; exact h
    rw [getV, if_neg (by rw [ho]; decide), ho]
    exact get_no a la ca p k w hn (by omega)
end Go.Proofs.YtacnhlmhibhlhaaGreat

/-
  The sector's small questions, and the numbers' bytes as pieces.
-/
namespace Go.Proofs.YtacnhlmhibhlhaaGreat
open Go.RowKit

def is64 (n : Nat) : Bool := decide (n = 64)
theorem isSector_any (a : Option Addr) (n c : Nat) (w : World) : Calls Tryz.prog 123 #[.slice a n c] w fun e w' => e = .returned (.bool (is64 n)) ∧ w = w' := by
  by_cases h : n = 64
  · subst h
    go_enter Tryz.func123, Tryz.ntmps123
    go_wp2
    go_ret
    exact ⟨rfl, rfl⟩
  · have hs : Hid (is64 n = false) := by show _ = _; simp [is64, h]
    have h1 : ((n : Int) == 64) = false := by simp; omega
    clear h
    go_enter Tryz.func123, Tryz.ntmps123
    go_wp2
    go_ret
    exact ⟨ret_bool hs.out.symm, rfl⟩
theorem seqOf_any (a : Option Addr) (n c : Nat) (w : World) (h : 4 ≤ c) (hm : c ≤ 9223372036854775807) (ha : a = none → n = 0 ∧ c = 0) :
    Calls Tryz.prog 141 #[.slice a n c] w fun e w' => e = .returned (.slice a 4 c) ∧ w = w' := by
  cases a with
  | none => have := ha rfl; omega
  | some p =>
    obtain ⟨b, o, s⟩ := p
    clear ha
    go_enter Tryz.func141, Tryz.ntmps141
    go_wp2
    go_ret
    exact ⟨rfl, rfl⟩
theorem toldS_any (b o c : Nat) (w : World) (h : 64 ≤ c) (hm : c ≤ 9223372036854775807) :
    Calls Tryz.prog 140 #[.slice (some ⟨b, o, none⟩) 64 c] w fun e w' => e = .returned (.slice (some ⟨b, o + 4, none⟩) 60 (c - 4)) ∧ w = w' := by
  have h4 : ¬ c = 4 := by omega
  go_enter Tryz.func140, Tryz.ntmps140
  go_wp2
  go_ret
  exact ⟨rfl, rfl⟩
theorem number_any (a : Option Addr) (n c p m : Nat) (x : List Int) (w : World) (hx : Bys w a n x) (hn : n ≤ 1000000000000) (h1 : 1 ≤ m) (h4 : m ≤ 4) (hp : p + m ≤ n) :
    Calls Tryz.prog 124 #[.slice a n c, .int .i64 p, .int .i64 m] w fun e w' => e = .returned (.int .i64 (getN x p m)) ∧ w = w' := by
  go_enter Tryz.func124, Tryz.ntmps124
  go_wp2_with (fail)
  refine (get_yes a n c p m x w hx hn h1 h4 hp).mono ?_
  rintro e w1 ⟨rfl, rfl⟩
  go_wp2_with (fail)
  go_ret
  exact ⟨rfl, rfl⟩

/-- What the reference's Put answers: a piece, and one of the call's own where it has bytes. -/
def RefPut (w0 : World) (zs : List Int) (e : Ending) (w' : World) : Prop :=
  ∃ a m c, e = .returned (.slice a m c) ∧ Pin w' a m c zs ∧ (0 < m → Own w' w0.heap.size (.slice a m c) m zs) ∧ Below w0.heap.size w0 w'
theorem xor_s (a b : Option Addr) (la ca lb cb : Nat) (x y : List Int) (w : World) (hx : Bys w a la x) (hy : Bys w b lb y) (hla : la ≤ 1000000000000) (hlb : lb ≤ 1000000000000) :
    Calls Tryz.prog 139 #[.slice a la ca, .slice b lb cb] w (RetS w (xorL x y)) :=
  (xor_any a b la ca lb cb x y w hx hy hla hlb).mono fun e w' ⟨he, hb, hl⟩ => ⟨_, _, _, he, hb.pin (xorL_small hx.small hy.small) (by rw [xorL_len, hx.len, hy.len]) (Nat.le_refl _) (by omega), hl⟩
end Go.Proofs.YtacnhlmhibhlhaaGreat

/-
  Have all of a row one Seq: the program's question, by contract.
-/
namespace Go.Proofs.YtacnhlmhibhlhaaGreat
open Go.RowKit

theorem quiet_left {P : Program} {f : FuncId} {args : Array Value} {w : World} {n : Nat} {v : Value}
    (h : Calls P f args (w.drewN n) fun e w' => e = .returned v ∧ w.drewN n = w') : Calls P f args (w.drewN n) fun e w'' => e = .returned v ∧ ∃ m, w'' = w.drewN m :=
  h.mono fun _ _ ⟨he, hm⟩ => ⟨he, n, hm.symm⟩
/-- The first k have 64 bytes and the first one's Seq. -/
def oneUpto (f : Nat → Pc) : Nat → Bool
  | 0 => true
  | k + 1 => oneUpto f k && (is64 (f k).zs.length && sameB ((f k).zs.take 4) ((f 0).zs.take 4))
def oneSeq (f : Nat → Pc) (n : Nat) : Bool := decide (0 < n) && oneUpto f n
theorem oneUpto_le {f : Nat → Pc} {k n : Nat} (h : k ≤ n) (hn : oneUpto f n = true) : oneUpto f k = true := by
  induction n with
  | zero => rw [Nat.le_zero.1 h]; exact hn
  | succ n ih =>
    rcases Nat.lt_or_ge k (n + 1) with h1 | h1
    · exact ih (by omega) (by rw [oneUpto, Bool.and_eq_true] at hn; exact hn.1)
    · rw [Nat.le_antisymm h h1]; exact hn
theorem oneUpto_at {f : Nat → Pc} {k n : Nat} (h : k < n) (hn : oneUpto f n = true) : (f k).zs.length = 64 ∧ (f k).zs.take 4 = (f 0).zs.take 4 := by
  have := oneUpto_le (k := k + 1) h hn
  rw [oneUpto, Bool.and_eq_true, Bool.and_eq_true] at this
  exact ⟨by simpa [is64] using this.2.1, by simpa [sameB] using this.2.2⟩
theorem oneUpto_of {f : Nat → Pc} {n : Nat} (h : ∀ k, k < n → (f k).zs.length = 64 ∧ (f k).zs.take 4 = (f 0).zs.take 4) : oneUpto f n = true := by
  induction n with
  | zero => rfl
  | succ n ih =>
    rw [oneUpto, ih fun k hk => h k (by omega)]
    have := h n (by omega)
    simp [is64, sameB, this.1, this.2]
theorem oneSeq_no {f : Nat → Pc} {k n : Nat} (h : k ≤ n) (hk : oneUpto f k = false) : oneSeq f n = false := by
  cases hn : oneUpto f n
  · simp [oneSeq, hn]
  · rw [oneUpto_le h hn] at hk; cases hk

def OneRel (f : Nat → Pc) (w0 : World) (n : Nat) (v : Value) (w : World) : Prop := ∃ k : Nat, k ≤ n ∧ v = .int .i64 k ∧ oneUpto f k = true ∧ ∃ q, w = w0.drewN q

theorem isSector_no (a : Option Addr) (n c : Nat) (w : World) (h : n ≠ 64) : Calls Tryz.prog 123 #[.slice a n c] w fun e w' => e = .returned (.bool false) ∧ w = w' := by
  have := isSector_any a n c w
  rwa [show is64 n = false by simp [is64, h]] at this
theorem isSector_yes (a : Option Addr) (c : Nat) (w : World) : Calls Tryz.prog 123 #[.slice a 64 c] w fun e w' => e = .returned (.bool true) ∧ w = w' := isSector_any a 64 c w

set_option maxHeartbeats 2000000 in
theorem one_any (a : Option Addr) (n c : Nat) (f : Nat → Pc) (w : World) (h : Rws w a n f) (hn : n ≤ 9223372036854775807) :
    Calls Tryz.prog 138 #[.slice a n c] w fun e w' => e = .returned (.bool (oneSeq f n)) ∧ Below w.heap.size w w' := by
  go_enter Tryz.func138, Tryz.ntmps138
  go_wp2_with (fail)
  go_loopw [4, 7] (fun _s v wr => OneRel f w n v wr) (fun _ v _ => n - (RowKit.intOf v).toNat)
  case atStart => exact ⟨0, by omega, rfl, rfl, 0, rfl⟩
  case round =>
    obtain ⟨k, hk, rfl, hone, q, hq⟩ := hrel
    have hb : Below w.heap.size w wr := by rw [hq]; exact below_drewN (Below.refl _ _) q
    have HQ := Lib.hid hq
    have HO := Lib.hid hone
    clear hq hone
    have hr := h.next hb
    by_cases hlt : k < n
    · obtain ⟨b, off, x, m, d, zs, rfl, hbl, hc, hp, hz, hm⟩ := hr.at hlt
      obtain ⟨b', off', x0, m0, d0, zs0, e0, _, hc0, hp0, hz0, hm0⟩ := hr.at (i := 0) (by omega)
      cases e0
      rw [Nat.add_zero] at hc0
      have HZ := Lib.hid hz
      have HZ0 := Lib.hid hz0
      have HP := Lib.hid hp
      have HP0 := Lib.hid hp0
      have hmd := hp.cap
      have hmd2 := hp.max
      have hmd0 := hp0.cap
      have hmd02 := hp0.max
      clear hz hz0 hp hp0 hm hm0 hr
      have hk0 : (0 : Int) ≤ (k : Int) := by omega
      have hk1 : (k : Int) < (n : Int) := by omega
      have hn0 : 0 < n := by omega
      by_cases hm : m = 64
      · subst hm
        have hzl : zs.length = 64 := HP.out.len
        have h064 : zs0.length = 64 := by
          rcases Nat.eq_zero_or_pos k with h0 | h0
          · rw [← HZ0.out, ← h0, HZ.out, hzl]
          · rw [← HZ0.out]; exact (oneUpto_at (k := 0) h0 HO.out).1
        have hm0 : m0 = 64 := by rw [← HP0.out.len, h064]
        subst hm0
        have hstep : Hid (oneUpto f (k + 1) = sameB (zs.take 4) (zs0.take 4)) := by
          show _ = _
          rw [oneUpto, HO.out, HZ.out, HZ0.out, hzl]
          simp [is64]
        have hnx := Lib.hid HP.out.nil
        have hnx0 := Lib.hid HP0.out.nil
        clear hzl h064
        cases hsb : sameB (zs.take 4) (zs0.take 4)
        · have HE : Hid (∀ q, Calls Tryz.prog 66 #[.slice x 4 d, .slice x0 4 d0] (wr.drewN q) fun e w' => e = .returned (.bool false) ∧ wr.drewN q = w') := by
            show ∀ q, _
            intro q
            have := equal_any x x0 4 d 4 d0 _ _ (wr.drewN q) ((HP.out.drewN q).bys.front (k := 4) (by omega)) ((HP0.out.drewN q).bys.front (k := 4) (by omega))
            rwa [hsb] at this
          have hstp : Hid (oneUpto f (k + 1) = false) := by show _ = _; rw [hstep.out, hsb]
          clear hsb
          go_wp2_with (fail)
          go_quiet (first
            | (go_at_call 123; exact quiet_left (isSector_yes _ _ _))
            | (go_at_call 141; exact quiet_left (seqOf_any _ 64 _ _ (by omega) (by omega) (by first | exact hnx.out | exact hnx0.out)))
            | (go_at_call 66; exact quiet_left (HE.out _)))
          go_wp2_with (fail)
          go_ret
          exact ⟨ret_bool (oneSeq_no hlt hstp.out).symm, by first | exact below_drewN hb _ | exact hb⟩
        · have HE : Hid (∀ q, Calls Tryz.prog 66 #[.slice x 4 d, .slice x0 4 d0] (wr.drewN q) fun e w' => e = .returned (.bool true) ∧ wr.drewN q = w') := by
            show ∀ q, _
            intro q
            have := equal_any x x0 4 d 4 d0 _ _ (wr.drewN q) ((HP.out.drewN q).bys.front (k := 4) (by omega)) ((HP0.out.drewN q).bys.front (k := 4) (by omega))
            rwa [hsb] at this
          have hstp : Hid (oneUpto f (k + 1) = true) := by show _ = _; rw [hstep.out, hsb]
          clear hsb
          go_wp2_with (fail)
          go_quiet (first
            | (go_at_call 123; exact quiet_left (isSector_yes _ _ _))
            | (go_at_call 141; exact quiet_left (seqOf_any _ 64 _ _ (by omega) (by omega) (by first | exact hnx.out | exact hnx0.out)))
            | (go_at_call 66; exact quiet_left (HE.out _)))
          go_wp2_with (fail)
          go_roundw
          case rel => exact ⟨k + 1, by omega, by go_num, hstp.out, q + nq, by rw [HQ.out, World.drewN_drewN]⟩
          case measure => simp [RowKit.intOf]; omega
      · have hno : Hid (oneUpto f (k + 1) = false) := by
          show _ = _
          rw [oneUpto, HZ.out, HP.out.len]
          simp [is64, hm]
        go_wp2_with (fail)
        go_quiet ((go_at_call 123; exact quiet_left (isSector_no _ _ _ _ hm)))
        go_wp2_with (fail)
        go_ret
        exact ⟨ret_bool (oneSeq_no hlt hno.out).symm, by first | exact below_drewN hb _ | exact hb⟩
    · obtain rfl : k = n := by omega
      clear hr
      by_cases h0 : 0 < k
      · have hs : Hid (oneSeq f k = true) := by show _ = _; simp [oneSeq, h0, HO.out]
        go_wp2_with (fail)
        go_ret
        exact ⟨ret_bool hs.out.symm, hb⟩
      · have hs : Hid (oneSeq f k = false) := by show _ = _; simp [oneSeq, h0]
        go_wp2_with (fail)
        go_ret
        exact ⟨ret_bool hs.out.symm, hb⟩

end Go.Proofs.YtacnhlmhibhlhaaGreat

/-
  The program's Encode, by contract.
-/
namespace Go.Proofs.YtacnhlmhibhlhaaGreat
open Go.RowKit

/-- A head, as a value. -/
abbrev hv (s o i : Int) : Value := .agg #[.int .i64 s, .int .i64 o, .int .i64 i]
/-- A head stands in block b. -/
structure Hx (w : World) (b : Nat) (s o i : Int) : Prop where
  lt : b < w.heap.size
  c0 : w.cell? ⟨b, 0, none⟩ = some (.int .i64 s)
  c1 : w.cell? ⟨b, 1, none⟩ = some (.int .i64 o)
  c2 : w.cell? ⟨b, 2, none⟩ = some (.int .i64 i)
theorem Hx.below {w w' : World} {b B : Nat} {s o i : Int} (h : Hx w b s o i) (hb : Below B w w') (hB : w.heap.size ≤ B) : Hx w' b s o i := by
  have hl := h.lt
  exact ⟨Nat.lt_of_lt_of_le hl hb.size, (hb.cell (p := ⟨b, 0, none⟩) (by show b < B; omega)).trans h.c0, (hb.cell (p := ⟨b, 1, none⟩) (by show b < B; omega)).trans h.c1, (hb.cell (p := ⟨b, 2, none⟩) (by show b < B; omega)).trans h.c2⟩
theorem Hx.next {w w' : World} {b : Nat} {s o i : Int} (h : Hx w b s o i) (hb : Below w.heap.size w w') : Hx w' b s o i := h.below hb (Nat.le_refl _)
theorem Hx.mk' (w : World) (s o i : Int) (t : TypeId) : Hx (w.alloc (.cells #[.int .i64 s, .int .i64 o, .int .i64 i] t (0, 0))) w.heap.size s o i :=
  ⟨by simp, by simp, by simp, by simp⟩
theorem Hx.drew {w : World} {b : Nat} {s o i : Int} (h : Hx w b s o i) : Hx w.drew b s o i := ⟨h.lt, h.c0, h.c1, h.c2⟩

/-- Two and three pieces, as a row. -/
def row2 (p q : Pc) : Nat → Pc := fun i => if i = 0 then p else q
theorem catL_two (p q : Pc) : catL (row2 p q) 2 = p.zs ++ q.zs := by simp [catL, row2]
theorem rws_two {w : World} {t : TypeId} {a0 a1 : Option Addr} {n0 c0 n1 c1 : Nat} {x0 x1 : List Int} (h0 : Pin w a0 n0 c0 x0) (h1 : Pin w a1 n1 c1 x1) :
    Rws (w.alloc (.cells #[.slice a0 n0 c0, .slice a1 n1 c1] t (0, 0))) (some ⟨w.heap.size, 0, none⟩) 2 (row2 ⟨a0, n0, c0, x0⟩ ⟨a1, n1, c1, x1⟩) := by
  refine ⟨.inr ⟨w.heap.size, 0, rfl, by simp, fun i hi => ?_⟩, fun i hi => ?_⟩
  · rcases (by omega : i = 0 ∨ i = 1) with rfl | rfl <;> simp [row2]
  · rcases (by omega : i = 0 ∨ i = 1) with rfl | rfl
    · exact h0.alloc _
    · exact h1.alloc _
end Go.Proofs.YtacnhlmhibhlhaaGreat

/-
  The program's Decode, by contract.
-/
namespace Go.Proofs.YtacnhlmhibhlhaaGreat
open Go.RowKit

def decO (x : List Int) : Bool := decide (x.length = 64)
def decN (x : List Int) (p m : Nat) : Int := if decO x then getN x p m else 0
def decL (x : List Int) : List Int := if decO x then x.drop 8 else []
/-- What Decode answers. -/
def DecPost (w0 : World) (x : List Int) (e : Ending) (w' : World) : Prop :=
  ∃ a n c, e = .returned (.tuple #[hv (decN x 0 4) (decN x 4 2) (decN x 6 2), .slice a n c, .bool (decO x)]) ∧ Pin w' a n c (decL x) ∧ Below w0.heap.size w0 w'

/-- .. and its payload is new. -/
def DecNew (w0 : World) (x : List Int) (e : Ending) (w' : World) : Prop :=
  ∃ a n c, e = .returned (.tuple #[hv (decN x 0 4) (decN x 4 2) (decN x 6 2), .slice a n c, .bool (decO x)]) ∧ Pin w' a n c (decL x) ∧ (∀ y, a = some y → w0.heap.size ≤ y.block) ∧ Below w0.heap.size w0 w'
theorem DecNew.t {w0 w' : World} {x : List Int} {e : Ending} (h : DecNew w0 x e w') : DecPost w0 x e w' := by
  obtain ⟨a, n, c, h1, h2, _, h3⟩ := h
  exact ⟨a, n, c, h1, h2, h3⟩

/-- A head's cells of the call's own, free to be written. -/
structure Rc (w : World) (b : Nat) : Prop where
  lt : b < w.heap.size
  c0 : ∃ v, w.cell? ⟨b, 0, none⟩ = some v
  c1 : ∃ v, w.cell? ⟨b, 1, none⟩ = some v
  c2 : ∃ v, w.cell? ⟨b, 2, none⟩ = some v
  f0 : w.frozen? ⟨b, 0, none⟩ = false
  f1 : w.frozen? ⟨b, 1, none⟩ = false
  f2 : w.frozen? ⟨b, 2, none⟩ = false
theorem Rc.mk' (w : World) (t : TypeId) : Rc (w.alloc (.cells #[.int .i64 0, .int .i64 0, .int .i64 0] t (0, 0))) w.heap.size :=
  ⟨by simp, ⟨_, by simp; rfl⟩, ⟨_, by simp; rfl⟩, ⟨_, by simp; rfl⟩, by go_simp, by go_simp, by go_simp⟩
theorem Rc.next {w w' : World} {b : Nat} (h : Rc w b) (hb : Below w.heap.size w w') : Rc w' b := by
  have hl := h.lt
  obtain ⟨x, hx⟩ := h.c0
  obtain ⟨y, hy⟩ := h.c1
  obtain ⟨z, hz⟩ := h.c2
  exact ⟨Nat.lt_of_lt_of_le hl hb.size, ⟨x, (hb.cell (p := ⟨b, 0, none⟩) hl).trans hx⟩, ⟨y, (hb.cell (p := ⟨b, 1, none⟩) hl).trans hy⟩, ⟨z, (hb.cell (p := ⟨b, 2, none⟩) hl).trans hz⟩,
    (hb.frozen (p := ⟨b, 0, none⟩) hl).trans h.f0, (hb.frozen (p := ⟨b, 1, none⟩) hl).trans h.f1, (hb.frozen (p := ⟨b, 2, none⟩) hl).trans h.f2⟩
theorem Rc.alloc {w : World} {b : Nat} (h : Rc w b) (o : Obj) : Rc (w.alloc o) b := h.next ((Below.refl _ _).alloc (Nat.le_refl _) o)
theorem Rc.drew {w : World} {b : Nat} (h : Rc w b) : Rc w.drew b := ⟨h.lt, h.c0, h.c1, h.c2, h.f0, h.f1, h.f2⟩

theorem set_oth {w : World} {a b : Addr} {v : Value} (h : a ≠ b) : (w.setCell a v).cell? b = w.cell? b := World.cell?_setCell_other _ _ _ _ h
theorem set_same {w : World} {a : Addr} {v u : Value} (h : w.cell? a = some u) : (w.setCell a v).cell? a = some v := World.cell?_setCell_same _ _ _ h
/-- A head is stored into block b. -/
def setH (w : World) (b : Nat) (p q r : Int) : World := ((w.setCell ⟨b, 0, none⟩ (.int .i64 p)).setCell ⟨b, 1, none⟩ (.int .i64 q)).setCell ⟨b, 2, none⟩ (.int .i64 r)
theorem Rc.set {w : World} {b : Nat} (h : Rc w b) (p q r : Int) : Hx (setH w b p q r) b p q r := by
  obtain ⟨x, hx⟩ := h.c0
  obtain ⟨y, hy⟩ := h.c1
  obtain ⟨z, hz⟩ := h.c2
  refine ⟨by simpa [setH] using h.lt, ?_, ?_, ?_⟩
  · rw [setH, set_oth (by simp), set_oth (by simp), set_same hx]
  · rw [setH, set_oth (by simp), set_same ((set_oth (by simp)).trans hy)]
  · rw [setH, set_same ((set_oth (by simp)).trans ((set_oth (by simp)).trans hz))]
theorem setH_other {w : World} {b : Nat} (p q r : Int) {x : Addr} (h : b ≠ x.block) : (setH w b p q r).cell? x = w.cell? x := by
  have : ∀ k, (⟨b, k, none⟩ : Addr) ≠ x := fun k e => h (by rw [← e])
  rw [setH, set_oth (this 2), set_oth (this 1), set_oth (this 0)]
theorem Hx.setOther {w : World} {b b' : Nat} {p q r s o i : Int} (h : Hx w b' s o i) (hne : b ≠ b') : Hx (setH w b p q r) b' s o i :=
  ⟨by simpa [setH] using h.lt, (setH_other p q r hne).trans h.c0, (setH_other p q r hne).trans h.c1, (setH_other p q r hne).trans h.c2⟩
theorem Own.setH {w : World} {B b : Nat} {p q r : Int} {v : Value} {n : Nat} {zs : List Int} (h : Own w B v n zs) (hb : b < B) : Own (setH w b p q r) B v n zs := ((h.setLow (p := ⟨b, 0, none⟩) hb _).setLow (p := ⟨b, 1, none⟩) hb _).setLow (p := ⟨b, 2, none⟩) hb _
theorem _root_.Go.RowKit.Below.setH {w0 w : World} {B b : Nat} {p q r : Int} (h : Below B w0 w) (hb : B ≤ b) : Below B w0 (setH w b p q r) := ((h.setCell (p := ⟨b, 0, none⟩) hb _).setCell (p := ⟨b, 1, none⟩) hb _).setCell (p := ⟨b, 2, none⟩) hb _

set_option maxHeartbeats 1000000 in
theorem dec_no (a : Option Addr) (n c : Nat) (x : List Int) (w : World) (hx : Pin w a n c x) (hn : n ≠ 64) :
    Calls Tryz.prog 83 #[.slice a n c] w (DecNew w x) := by
  have ho : Hid (decO x = false) := by show _ = _; simp [decO, hx.len, hn]
  have hi : is64 n = false := by simp [is64, hn]
  clear hx hn
  go_enter Tryz.func83, Tryz.ntmps83
  go_wp2_with (fail)
  refine (isSector_any a n c _).mono ?_
  rintro e w1 ⟨rfl, rfl⟩
  rw [hi]
  go_wp2_with (fail)
  exact bodyPost_ret (v := .tuple #[hv 0 0 0, .slice none 0 0, .bool false]) (by simp [results, Tryz.results83, go_sem]) rfl (by
    rw [DecNew, decN, decN, decN, decL, ho.out]
    exact ⟨_, _, _, rfl, Pin.zero _, (fun y hy => by cases hy), ((Below.refl _ _).alloc (Nat.le_refl _) _)⟩)

set_option maxHeartbeats 1000000 in
theorem dec_yes (a : Option Addr) (c : Nat) (x : List Int) (w : World) (hx : Pin w a 64 c x) :
    Calls Tryz.prog 83 #[.slice a 64 c] w (DecNew w x) := by
  have ho : Hid (decO x = true) := by show _ = _; simp [decO, hx.len]
  have hi : is64 64 = true := rfl
  obtain ⟨b, off, rfl, hlt, _⟩ := hx.at (by omega)
  have hcap := hx.cap
  have hmax := hx.max
  have hc8 : ¬ c = 8 := by omega
  go_enter Tryz.func83, Tryz.ntmps83
  go_wp2_with (fail)
  refine (isSector_any _ 64 c _).mono ?_
  rintro e w1 ⟨rfl, rfl⟩
  rw [hi]
  clear hi
  have hx1 := hx.alloc (.cells #[.int .i64 0, .int .i64 0, .int .i64 0] 102 (0, 0))
  go_wp2_with (fail)
  refine (number_any _ 64 c 0 4 x _ hx1.bys (by omega) (by omega) (by omega) (by omega)).mono ?_
  rintro e w1 ⟨rfl, rfl⟩
  go_wp2_with (fail)
  refine (number_any _ 64 c 4 2 x _ hx1.bys (by omega) (by omega) (by omega) (by omega)).mono ?_
  rintro e w1 ⟨rfl, rfl⟩
  go_wp2_with (fail)
  refine (number_any _ 64 c 6 2 x _ hx1.bys (by omega) (by omega) (by omega) (by omega)).mono ?_
  rintro e w1 ⟨rfl, rfl⟩
  go_wp2_with (fail)
  obtain ⟨p, hp⟩ : ∃ p, p = getN x 0 4 := ⟨_, rfl⟩
  obtain ⟨q, hq⟩ : ∃ p, p = getN x 4 2 := ⟨_, rfl⟩
  obtain ⟨r, hr⟩ : ∃ p, p = getN x 6 2 := ⟨_, rfl⟩
  rw [← hp, ← hq, ← hr]
  obtain ⟨w2, hw2⟩ : ∃ w2, w2 = (w.alloc (.cells #[.int .i64 0, .int .i64 0, .int .i64 0] 102)).alloc (.cells #[.int .i64 p, .int .i64 q, .int .i64 r] 102) := ⟨_, rfl⟩
  have hd : Hx w2.drew (w.heap.size + 1) p q r := by rw [hw2]; have := Hx.mk' (w.alloc (.cells #[.int .i64 0, .int .i64 0, .int .i64 0] 102)) p q r 102; simpa using this.drew
  have hz : Rc w2.drew w.heap.size := by rw [hw2]; exact ((Rc.mk' w 102).alloc _).drew
  have hx2 : Pin w2.drew (some ⟨b, off, none⟩) 64 c x := by rw [hw2]; exact (hx1.alloc _).drewN 1
  have hB2 : Below w.heap.size w w2.drew := by rw [hw2]; exact below_drewN (((Below.refl _ _).alloc (Nat.le_refl _) _).alloc (by simp) _) 1
  have hB2s : Hid (w.heap.size ≤ w2.drew.heap.size) := hB2.size
  rw [← hw2]
  clear hw2 hx hx1
  have hc0 := hd.c0
  have hc1 := hd.c1
  have hc2 := hd.c2
  have hP := Lib.hid hp
  have hQ := Lib.hid hq
  have hR := Lib.hid hr
  clear hp hq hr
  refine wp_region_held_drew (S := (fun w' => w'.cell? ⟨w.heap.size + 1, 0, none⟩ = some (.int .i64 p) ∧ w'.cell? ⟨w.heap.size + 1, 1, none⟩ = some (.int .i64 q) ∧ w'.cell? ⟨w.heap.size + 1, 2, none⟩ = some (.int .i64 r))) (by kernel_rfl) ?_ (fun hHeld => ?_)
  · exact ⟨hc0, hc1, hc2⟩
  refine rgY 0 ?_ rfl (by kernel_rfl) (fun _ _ _ h => h) (.inl ⟨by rfl, fun w hSw => ?_⟩) (by assumption) ?_
  rotate_left
  · (try dsimp only at hSw); go_simp; try with_reducible rfl
  simp only [Act.put, rg1, rg2, rg3, rg4, rg6]
  refine rgY 1 ?_ rfl (by kernel_rfl) (fun _ _ _ h => h) (.inl ⟨by rfl, fun w hSw => ?_⟩) (by assumption) ?_
  rotate_left
  · (try dsimp only at hSw); go_simp; try with_reducible rfl
  simp only [Act.put, rg1, rg2, rg3, rg4, rg5, rg6]
  refine rgY 2 ?_ rfl (by kernel_rfl) (fun _ _ _ h => h) (.inl ⟨by rfl, fun w hSw => ?_⟩) (by assumption) ?_
  rotate_left
  · (try dsimp only at hSw); go_simp; try with_reducible rfl
  simp only [Act.put, rg1, rg2, rg3, rg4, rg5, rg6]
  refine wpAnyH_ready (rs := [3]) (by kernel_rfl) (by simp) ?_
  refine AllReadyH.cons rfl (fun K hK => ?_) AllReadyH.nil
  simp only [List.getElem_toArray, List.getElem_cons_succ, List.getElem_cons_zero]
  go_simp
  refine (cloneP_any _ 56 (c - 8) (x.drop 8) _ (hx2.rest 8) (by omega)).mono ?_
  rintro e w3 ⟨v3, rfl, ho3, hb3⟩
  have hd3 := hd.next hb3
  have hz3 := hz.next hb3
  have hB3 := hB2.trans (hb3.mono hB2.size)
  have hz2lt := hz.lt
  clear hd hz hB2 hb3 hx2
  obtain ⟨v0, z0⟩ := hz3.c0
  obtain ⟨v1, z1⟩ := hz3.c1
  obtain ⟨v2, z2⟩ := hz3.c2
  have f0 := hz3.f0
  have f1 := hz3.f1
  have f2 := hz3.f2
  go_wp2_with (fail)
  refine hK.out _ _ ⟨hd3.c0, hd3.c1, hd3.c2⟩ (fun hHeld => ?_)
  clear hK K
  refine wpAnyH_ready (rs := [4]) (by kernel_rfl) (by simp) ?_
  refine AllReadyH.cons rfl (fun K hK => ?_) AllReadyH.nil
  simp only [List.getElem_toArray, List.getElem_cons_succ, List.getElem_cons_zero]
  go_simp
  have hd4 : Hx (setH w3 w.heap.size p q r) (w.heap.size + 1) p q r := hd3.setOther (by omega)
  have hr4 : Hx (setH w3 w.heap.size p q r) w.heap.size p q r := hz3.set p q r
  have ho4 : Own (setH w3 w.heap.size p q r) w2.drew.heap.size v3 (x.drop 8).length (x.drop 8) := ho3.setH hz2lt
  have hB4 : Below w.heap.size w (setH w3 w.heap.size p q r) := hB3.setH (Nat.le_refl _)
  refine hK.out _ (setH w3 w.heap.size p q r) ⟨hd4.c0, hd4.c1, hd4.c2⟩ (fun hHeld => ?_)
  clear hK K
  obtain ⟨w4, hw4⟩ : ∃ w4, w4 = setH w3 w.heap.size p q r := ⟨_, rfl⟩
  rw [← hw4] at hd4 hr4 ho4 hB4 hHeld ⊢
  clear hw4
  obtain ⟨a4, c4, rfl, hp4, hn4⟩ := ho4.pin
  have HN4 : Hid (∀ y, a4 = some y → w.heap.size ≤ y.block) := fun y hy => by have := (hn4 y hy).1; have := hB2s.out; omega
  refine rgY 5 ?_ rfl (by kernel_rfl) (fun _ _ _ h => h) (.inl ⟨by rfl, fun w hSw => ?_⟩) (by assumption) ?_
  rotate_left
  · (try dsimp only at hSw); go_simp; try with_reducible rfl
  simp only [Act.put, rg1, rg2, rg3, rg4, rg5, rg6]
  refine rgY 6 ?_ rfl (by kernel_rfl) (fun _ _ _ h => h) (.inl ⟨by rfl, fun w hSw => ?_⟩) (by assumption) ?_
  rotate_left
  · (try dsimp only at hSw); go_simp; try with_reducible rfl
  simp only [Act.put, rg1, rg2, rg3, rg4, rg5, rg6]
  refine wpAnyH_done (by kernel_rfl) ?_ _
  go_wp2_with (fail)
  have g0 := hr4.c0
  have g1 := hr4.c1
  have g2 := hr4.c2
  exact bodyPost_ret (v := .tuple #[hv p q r, .slice a4 (x.drop 8).length c4, .bool true]) (by simp [results, Tryz.results83, go_sem, g0, g1, g2]) rfl (by
    rw [DecNew, decN, decN, decN, decL, ho.out, ← hP.out, ← hQ.out, ← hR.out]
    exact ⟨_, _, _, rfl, hp4, HN4.out, hB4⟩)

end Go.Proofs.YtacnhlmhibhlhaaGreat

/-
  The program's Parity and Restore, by contract.
-/
namespace Go.Proofs.YtacnhlmhibhlhaaGreat
open Go.RowKit

/-- The exclusive or of what is told of the first k. -/
def sumP (f : Nat → Pc) : Nat → List Int
  | 0 => []
  | k + 1 => xorL (sumP f k) ((f k).zs.drop 4)
def parL (f : Nat → Pc) (n : Nat) : List Int := if oneSeq f n then (f 0).zs.take 4 ++ sumP f n else []
theorem sumP_len {f : Nat → Pc} {k n : Nat} (h : k ≤ n) (ho : oneUpto f n = true) : (sumP f k).length ≤ 60 := by
  induction k with
  | zero => exact Nat.zero_le _
  | succ k ih =>
    have := (oneUpto_at (k := k) h ho).1
    rw [sumP, xorL_len, List.length_drop, this]
    have := ih (by omega)
    omega
def ParRel (f : Nat → Pc) (w0 : World) (n : Nat) (u v : Value) (w : World) : Prop :=
  ∃ k a m c, k ≤ n ∧ v = .int .i64 (k : Nat) ∧ u = .slice a m c ∧ Pin w a m c (sumP f k) ∧ m ≤ 60 ∧ Below w0.heap.size w0 w

set_option maxHeartbeats 2000000 in
theorem par_n (a : Option Addr) (n c : Nat) (f : Nat → Pc) (w : World) (h : Rws w a n f) (hn : n ≤ 9223372036854775807) :
    Calls Tryz.prog 104 #[.slice a n c] w (RetN w (parL f n) (oneSeq f n)) := by
  cases ho : oneSeq f n
  · have hf := one_any a n c f w h hn
    rw [ho] at hf
    have hP : Hid (parL f n = []) := by show _ = _; rw [parL, ho]; rfl
    clear ho h
    go_enter Tryz.func104, Tryz.ntmps104
    go_wp2_with (fail)
    refine hf.mono ?_
    rintro e w1 ⟨rfl, hb1⟩
    go_wp2_with (fail)
    go_ret2
    rw [hP.out]
    exact ⟨_, _, _, rfl, Pin.zero _, (fun x h => by cases h), hb1⟩
  · have hf := one_any a n c f w h hn
    rw [ho] at hf
    have ho1 : 0 < n ∧ oneUpto f n = true := by simpa [oneSeq] using ho
    have hP : Hid (parL f n = (f 0).zs.take 4 ++ sumP f n) := by show _ = _; rw [parL, ho]; rfl
    have HO := Lib.hid ho1.2
    have hn0 := ho1.1
    clear ho ho1
    go_enter Tryz.func104, Tryz.ntmps104
    go_wp2_with (fail)
    refine hf.mono ?_
    rintro e w1 ⟨rfl, hb1⟩
    go_wp2_with (fail)
    go_loopw [4, 6, 12] (fun u _s v wr => ParRel f w n u v wr) (fun _ _ v _ => n - (RowKit.intOf v).toNat)
    case atStart => exact ⟨0, none, 0, 0, by omega, rfl, rfl, Pin.zero _, by omega, hb1⟩
    case round =>
      obtain ⟨k, x1, m1, d1, hk, rfl, rfl, hp1, hm1, hb⟩ := hrel
      have hr := h.next hb
      clear hb1
      by_cases hlt : k < n
      · obtain ⟨b, off, x, m, d, zs, rfl, hbl, hc, hp, hz, hm⟩ := hr.at hlt
        have hzl := (oneUpto_at hlt HO.out).1
        rw [hz, hp.len] at hzl
        subst hzl
        obtain ⟨b2, o2, rfl, _, _⟩ := hp.at (by omega)
        have hcap := hp.cap
        have hmax := hp.max
        have HS := Lib.hid (show sumP f (k + 1) = xorL (sumP f k) (zs.drop 4) by rw [← hz]; rfl)
        have HL := Lib.hid (sumP_len (k := k + 1) hlt HO.out)
        have HP := Lib.hid hp
        clear hm hz hp hr
        go_wp2_with (fail)
        refine (toldS_any b2 o2 d wr (by omega) (by omega)).mono ?_
        rintro e w2 ⟨rfl, rfl⟩
        go_wp2_with (fail)
        refine (xor_s _ _ m1 d1 60 (d - 4) _ _ wr hp1.bys (HP.out.rest 4).bys (by omega) (by omega)).mono ?_
        rintro e w2 ⟨x2, m2, d2, rfl, hp2, hb2⟩
        go_wp2_with (fail)
        go_roundw
        case rel => exact ⟨k + 1, x2, m2, d2, by omega, by go_num, rfl, by rw [HS.out]; exact hp2, by rw [← hp2.len, ← HS.out]; exact HL.out, hb.trans (hb2.mono hb.size)⟩
        case measure => simp [RowKit.intOf]; omega
      · obtain rfl : k = n := by omega
        obtain ⟨b, off, x, m, d, zs, rfl, hbl, hc, hp, hz, hm⟩ := hr.at (i := 0) hn0
        rw [Nat.add_zero] at hc
        have hzl := (oneUpto_at hn0 HO.out).1
        rw [hz, hp.len] at hzl
        subst hzl
        obtain ⟨b2, o2, rfl, _, _⟩ := hp.at (by omega)
        have hcap := hp.cap
        have hmax := hp.max
        have HZ := Lib.hid hz
        have HP := Lib.hid hp
        have hsz := hb.size
        clear hm hz hp hr
        go_wp2_with (fail)
        refine (seqOf_any _ 64 d wr (by omega) (by omega) (fun h => by cases h)).mono ?_
        rintro e w2 ⟨rfl, rfl⟩
        go_wp2_with (fail)
        have hq := HP.out.front (k := 4) (by omega) (fun h => by cases h)
        have hcl : (catL (row2 ⟨some ⟨b2, o2, none⟩, 4, d, zs.take 4⟩ ⟨x1, m1, d1, sumP f k⟩) 2).length ≤ 1000000000000 := by
          rw [catL_two, List.length_append]; simp only []; rw [hq.len, hp1.len]; omega
        refine (concat_any _ 2 2 _ _ (rws_two hq hp1) (by omega) hcl).mono ?_
        rintro e w8 ⟨v8, rfl, ho8, hb8⟩
        rw [catL_two] at ho8
        have hB8 : Below w.heap.size w w8 := (hb.alloc hsz _).trans (hb8.mono (by simp; omega))
        have ho8' : Own w8 (wr.alloc (.cells #[.slice (some ⟨b2, o2, none⟩) 4 d, .slice x1 m1 d1] 42)).heap.size v8 (zs.take 4 ++ sumP f k).length (zs.take 4 ++ sumP f k) := ho8
        obtain ⟨n8, hn8⟩ : ∃ m, m = (zs.take 4 ++ sumP f k).length := ⟨_, rfl⟩
        rw [← hn8] at ho8'
        obtain ⟨a8, d8, rfl, hp8, hnew⟩ := ho8'.pin
        clear hcl hp1 hq hb hb8 ho8 ho8' hn8
        go_wp2_with (fail)
        go_ret2
        rw [hP.out, HZ.out]
        exact ⟨_, _, _, rfl, hp8, (fun x hx => by have := (hnew x hx).1; simp at this; omega), hB8⟩
end Go.Proofs.YtacnhlmhibhlhaaGreat

/-
  The reference's numbers, as functions of their arguments.
-/
namespace Go.Proofs.YtacnhlmhibhlhaaGreat
open Go.RowKit

theorem refGet_fun (a : Option Addr) (la ca : Nat) (p k : Int) (x : List Int) (w : World) (hx : Bys w a la x) (hn : la ≤ 1000000000000) :
    Calls Tryz.prog 85 #[.slice a la ca, .int .i64 p, .int .i64 k] w fun e w' => e = .returned (.tuple #[.int .i64 (getV la x p k), .bool (getO la p k)]) ∧ w = w' := by
  by_cases h : (1 ≤ k ∧ k ≤ 4) ∧ 0 ≤ p ∧ p ≤ la - k
  · have ho : getO la p k = true := by simp only [getO, decide_eq_true_eq]; exact h
    obtain ⟨m, rfl⟩ := Int.eq_ofNat_of_zero_le (by omega : 0 ≤ k)
    obtain ⟨q, rfl⟩ := Int.eq_ofNat_of_zero_le h.2.1
    rw [getV, if_pos ho, ho]
    exact refGet_yes a la ca q m x w hx hn (by omega) (by omega) (by omega)
  · have ho : getO la p k = false := by simp only [getO, decide_eq_false_iff_not]; exact h
    rw [getV, if_neg (by rw [ho]; decide), ho]
    exact refGet_no a la ca p k w (by omega)

end Go.Proofs.YtacnhlmhibhlhaaGreat

/-
  The reference's Parity, by contract.
-/
namespace Go.Proofs.YtacnhlmhibhlhaaGreat
open Go.RowKit

/-- The exclusive or of what is told of the first k, begun with noughts. -/
def sumR (f : Nat → Pc) : Nat → List Int
  | 0 => List.replicate 60 0
  | k + 1 => xorL (sumR f k) ((f k).zs.drop 4)
theorem xorL_nought {x : List Int} (h : x.length = 60) (hs : AllB x) : xorL (List.replicate 60 0) x = x := by
  refine byt_ext (by rw [xorL_len, h]; simp) fun i hi => ?_
  rw [xorL_len] at hi
  rw [byt_xorL hi, byt_zero, xr_comm, xr_zero (byt_bd hs i).1]
theorem xorL_nil {x : List Int} (hs : AllB x) : xorL [] x = x := by
  refine byt_ext (by rw [xorL_len]; simp) fun i hi => ?_
  rw [xorL_len] at hi
  rw [byt_xorL hi, byt_past (Nat.zero_le _), xr_comm, xr_zero (byt_bd hs i).1]
theorem sumR_len {f : Nat → Pc} {k n : Nat} (h : k ≤ n) (ho : oneUpto f n = true) : (sumR f k).length = 60 := by
  induction k with
  | zero => rfl
  | succ k ih =>
    rw [sumR, xorL_len, List.length_drop, (oneUpto_at (k := k) h ho).1, ih (by omega)]
    rfl
theorem sumR_sumP {f : Nat → Pc} {k n : Nat} (hf : ∀ i, i < n → AllB (f i).zs) (h : k + 1 ≤ n) (ho : oneUpto f n = true) : sumR f (k + 1) = sumP f (k + 1) := by
  induction k with
  | zero =>
    have h1 := (oneUpto_at (k := 0) h ho).1
    rw [sumR, sumP, sumR, sumP, xorL_nought (by rw [List.length_drop, h1]) ((hf 0 h).drop 4), xorL_nil ((hf 0 h).drop 4)]
  | succ k ih => rw [sumR, sumP, ih (by omega)]
theorem sumR_small {f : Nat → Pc} {k n : Nat} (hf : ∀ i, i < n → AllB (f i).zs) (h : k ≤ n) : AllB (sumR f k) := by
  induction k with
  | zero => exact AllB.zeros _
  | succ k ih => exact xorL_small (ih (by omega)) ((hf k h).drop 4)
theorem Rws.small {w : World} {a : Option Addr} {n : Nat} {f : Nat → Pc} (h : Rws w a n f) : ∀ i, i < n → AllB (f i).zs := fun i hi => (h.each i hi).bys.small

/-- What stands behind k sectors. -/
def outR (f : Nat → Pc) (k : Nat) : List Int := (f 0).zs.take 4 ++ sumR f k
theorem byt_out {x y : List Int} (h : x.length = 4) (j : Nat) : byt (x ++ y) j = if j < 4 then byt x j else byt y (j - 4) := by
  by_cases hj : j < 4
  · rw [if_pos hj, byt_app_left (by omega)]
  · rw [if_neg hj]
    obtain ⟨m, rfl⟩ : ∃ m, j = x.length + m := ⟨j - 4, by omega⟩
    rw [byt_app_right, h, Nat.add_sub_cancel_left]

theorem outR_small {f : Nat → Pc} {k n : Nat} (hf : ∀ i, i < n → AllB (f i).zs) (h0 : 0 < n) (h : k ≤ n) : AllB (outR f k) := ((hf 0 h0).take 4).app (sumR_small hf h)
theorem outR_len {f : Nat → Pc} {k : Nat} (h64 : (f 0).zs.length = 64) (ho : oneUpto f k = true) : (outR f k).length = 64 := by
  rw [outR, List.length_append, sumR_len (Nat.le_refl _) ho, List.length_take, h64]; rfl

/-- The outer loop's relation. -/
def RefRel (f : Nat → Pc) (w0 : World) (n : Nat) (v : Value) (w : World) : Prop :=
  ∃ k : Nat, k ≤ n ∧ v = .int .i64 k ∧ oneUpto f k = true ∧ Blk w w0.heap.size (outR f k) ∧ Below w0.heap.size w0 w
/-- The inner loop's. -/
def RefRel2 (f : Nat → Pc) (k : Nat) (w0 : World) (v : Value) (w : World) : Prop :=
  ∃ (j : Nat) (zs : List Int), 4 ≤ j ∧ j ≤ 64 ∧ v = .int .i64 j ∧ Blk w w0.heap.size zs ∧ Mix zs (outR f k) (outR f (k + 1)) j ∧ Below w0.heap.size w0 w

set_option maxHeartbeats 4000000 in
theorem refPar_some (a : Option Addr) (n c : Nat) (f : Nat → Pc) (w : World) (h : Rws w a n f) (hn : n ≤ 9223372036854775807) (hn0 : 0 < n) (h64 : (f 0).zs.length = 64) :
    Calls Tryz.prog 129 #[.slice a n c] w (RetN w (parL f n) (oneSeq f n)) := by
  obtain ⟨b, off, x, m, d, zs, rfl, hbl, hc, hp, hz, hm⟩ := h.at hn0
  rw [Nat.add_zero] at hc
  have hsm := h.small
  have h64' := h64
  rw [hz, hp.len] at h64'
  subst h64'
  obtain ⟨b2, o2, rfl, hb2, hc2⟩ := hp.at (by omega)
  have hcap := hp.cap
  have hmax := hp.max
  have hq := hp.front (k := 4) (by omega) (fun h => by cases h)
  have HZ := Lib.hid hz
  have HSM := Lib.hid hsm
  have H64 := Lib.hid h64
  have hzl := hp.len
  have HZL := Lib.hid hzl
  clear hz hm hp hsm h64 hc2 hzl
  go_enter Tryz.func129, Tryz.ntmps129
  go_wp2_with (first
    | (at_make; go_must (refine wpList_mk rfl _ _ rfl _ _ _ _ 64 rfl rfl rfl rfl (by omega) ?_); intro w1 hb1 hl1; have hc1 := (hl1.cell (p := ⟨b, off, none⟩) hbl).trans hc)
    | (with_reducible refine wpList_cp rfl (.tmp 18) (.tmp 22) rfl w.heap.size 64 64 4 d (some ⟨b2, o2, none⟩) rfl rfl _ (zs.take 4) hb1 (hq.bys.below (Nat.le_refl _) hl1) (by simp) (by omega) w.heap.size w hl1 (Nat.le_refl _) ?_; intro w2 hb2 hl2))
  have hbk : Blk w2 w.heap.size (outR f 0) := by
    have : zs.take 4 ++ (List.replicate 64 0).drop 4 = outR f 0 := by rw [outR, HZ.out]; rfl
    rw [← this]; exact hb2
  clear hb1 hl1 hc1 hb2 hc hq
  go_wp2_with (fail)
  go_loopw [5, 6] (fun v _k wr => RefRel f w n v wr) (fun v _ _ => n - (RowKit.intOf v).toNat)
  case atStart => exact ⟨0, by omega, rfl, rfl, hbk, hl2⟩
  case round =>
    obtain ⟨k, hk, rfl, hone, hbk', hb⟩ := hrel
    clear hbk hl2
    have hr := h.next hb
    have HO := Lib.hid hone
    clear hone
    by_cases hlt : k < n
    · obtain ⟨b', off', x, m, d', zs', e0, hbl', hcw, hpw, hz, hm⟩ := h.at hlt
      cases e0
      have hp := hpw.next hb
      have hc' := (hb.cell (p := ⟨b, off + k, none⟩) hbl').trans hcw
      have hp64 := hp.max
      have hpc := hp.cap
      have hk0 : (0 : Int) ≤ (k : Int) := by omega
      have hk1 : (k : Int) < (n : Int) := by omega
      by_cases hm64 : m = 64
      · subst hm64
        obtain ⟨b3, o3, rfl, hb3, hc3⟩ := hpw.at (by omega)
        have hstep : Hid (oneUpto f (k + 1) = sameB (zs'.take 4) ((outR f k).take 4)) := by
          show _ = _
          rw [oneUpto, HO.out, hz, hp.len, HZ.out, outR, HZ.out, List.take_left' (by rw [List.length_take, HZL.out]; rfl)]
          simp [is64]
        have hxf := Lib.hid (hp.front (k := 4) (by omega) (fun h => by cases h)).bys
        have hof := Lib.hid (hbk'.bys (outR_small HSM.out hn0 hk) (n := 4) (by rw [outR_len H64.out HO.out]; omega))
        have HBK := Lib.hid hbk'
        have HP := Lib.hid hp
        have HZ' := Lib.hid hz
        have HN3 := Lib.hid hb3
        have HC3 := Lib.hid hc3
        have HCW := Lib.hid hcw
        clear hbk' hp hpw hz hr hm hc3 hb3 hcw
        cases hsb : sameB (zs'.take 4) ((outR f k).take 4)
        · have HE : Hid (∀ q, Calls Tryz.prog 167 #[.slice (some ⟨b3, o3, none⟩) 4 d', .slice (some ⟨w.heap.size, 0, none⟩) 4 64] (wr.drewN q) fun e w' => e = .returned (.bool false) ∧ ∃ m, w' = (wr.drewN q).drewN m) := by
            show ∀ q, _
            intro q
            have := same_any (some ⟨b3, o3, none⟩) (some ⟨w.heap.size, 0, none⟩) 4 d' 4 64 _ _ (wr.drewN q) (hxf.out.drewN q) (hof.out.drewN q) (by omega)
            rwa [hsb] at this
          have hstp : Hid (oneUpto f (k + 1) = false) := by show _ = _; rw [hstep.out, hsb]
          clear hsb
          go_wp2_with (fail)
          go_quiet ((go_at_call 167; exact Calls.quiet_of (HE.out _)))
          go_wp2_with (fail)
          go_ret2
          rw [oneSeq_no hlt hstp.out, parL, oneSeq_no hlt hstp.out]
          exact ⟨_, _, _, rfl, Pin.zero _, (fun x hx => by cases hx), by first | exact below_drewN hb _ | exact hb⟩
        · have HE : Hid (∀ q, Calls Tryz.prog 167 #[.slice (some ⟨b3, o3, none⟩) 4 d', .slice (some ⟨w.heap.size, 0, none⟩) 4 64] (wr.drewN q) fun e w' => e = .returned (.bool true) ∧ ∃ m, w' = (wr.drewN q).drewN m) := by
            show ∀ q, _
            intro q
            have := same_any (some ⟨b3, o3, none⟩) (some ⟨w.heap.size, 0, none⟩) 4 d' 4 64 _ _ (wr.drewN q) (hxf.out.drewN q) (hof.out.drewN q) (by omega)
            rwa [hsb] at this
          have hstp : Hid (oneUpto f (k + 1) = true) := by show _ = _; rw [hstep.out, hsb]
          clear hsb
          go_wp2_with (fail)
          go_quiet ((go_at_call 167; exact Calls.quiet_of (HE.out _)))
          go_wp2_with (fail)
          have hl4 : Below w.heap.size w (wr.drewN nq) := below_drewN hb nq
          have hk4 : Blk (wr.drewN nq) w.heap.size (outR f k) := HBK.out.drewN nq
          have hsm' := (Rws.small h)
          have HT := Lib.hid (show ∀ j, 4 ≤ j → j < 64 → bits .xor .u8 (byt (outR f k) j) (byt zs' j) = byt (outR f (k + 1)) j from fun j h4 h64 => by
            have h4l : ((f 0).zs.take 4).length = 4 := by rw [List.length_take, H64.out]; rfl
            have hl1 := sumR_len (Nat.le_refl _) HO.out
            have hb1 := byt_bd (outR_small HSM.out hn0 hk) j
            have hb2 := byt_bd HP.out.bys.small j
            rw [u8_xr hb1 hb2, outR, outR, byt_out h4l, byt_out h4l, if_neg (by omega), if_neg (by omega), sumR, byt_xorL (by rw [hl1]; omega), byt_drop, HZ'.out, show 4 + (j - 4) = j by omega])
          have HF := Lib.hid (show ∀ j, j < 4 → byt (outR f k) j = byt (outR f (k + 1)) j from fun j h4 => by
            have h4l : ((f 0).zs.take 4).length = 4 := by rw [List.length_take, H64.out]; rfl
            rw [outR, outR, byt_out h4l, byt_out h4l, if_pos h4, if_pos h4])
          have HL0 := Lib.hid (outR_len H64.out HO.out)
          have HL1 := Lib.hid (outR_len H64.out hstp.out)
          clear hc' hb hsm'
          obtain ⟨w4, hw4⟩ : ∃ w4, w4 = wr.drewN nq := ⟨_, rfl⟩
          rw [← hw4] at hl4 hk4 ⊢
          clear hw4 hstep hof hxf HBK HE
          obtain ⟨wo, rfl⟩ : ∃ wo, wo = wr := ⟨_, rfl⟩
          go_loopw [6] (fun v wr => RefRel2 f k w v wr) (fun v _ => 64 - (RowKit.intOf v).toNat)
          case atStart => exact ⟨4, _, by omega, by omega, rfl, hk4, ⟨by rw [HL0.out, HL1.out], HF.out, fun _ _ => rfl⟩, hl4⟩
          case round =>
            obtain ⟨j, zo, h4j, hj, rfl, hbo, hmix, hlo⟩ := hrel
            clear hk4 hl4
            by_cases hj64 : j < 64
            · have g0 : wr.cell? ⟨w.heap.size, j, none⟩ = some (.int .u8 (byt zo j)) := hbo.cell (by rw [hmix.len, HL1.out]; exact hj64)
              have g1 : wr.cell? ⟨b, off + k, none⟩ = some (.slice (some ⟨b3, o3, none⟩) 64 d') := (hlo.cell (p := ⟨b, off + k, none⟩) hbl').trans HCW.out
              have g2 : wr.cell? ⟨b3, o3 + j, none⟩ = some (.int .u8 (byt zs' j)) := (hlo.cell (p := ⟨b3, o3 + j, none⟩) HN3.out).trans (HC3.out j hj64)
              have g3 : wr.frozen? ⟨w.heap.size, j, none⟩ = false := hbo.free j
              have hj0 : (0 : Int) ≤ (j : Int) := by omega
              have hj1 : (j : Int) < 64 := by omega
              have d0 : wr.drew.cell? ⟨w.heap.size, j, none⟩ = some (.int .u8 (byt zo j)) := g0
              have d3 : wr.drew.frozen? ⟨w.heap.size, j, none⟩ = false := g3
              go_wp2_with (fail)
              refine wp_region_held_drew (S := (fun w' => w'.cell? ⟨b, off + k, none⟩ = some (.slice (some ⟨b3, o3, none⟩) 64 d') ∧ w'.cell? ⟨b3, o3 + j, none⟩ = some (.int .u8 (byt zs' j)))) (by kernel_rfl) ?_ (fun hHeld => ?_)
              · exact ⟨g1, g2⟩
              refine rgY 0 ?_ rfl (by kernel_rfl) (fun _ _ _ h => h) (.inl ⟨by rfl, fun w hSw => ?_⟩) (by assumption) ?_
              rotate_left
              · (try dsimp only at hSw); go_simp; try with_reducible rfl
              simp only [Act.put, rg1, rg2, rg3, rg4, rg6]
              refine rgY 1 ?_ rfl (by kernel_rfl) (fun _ _ _ h => h) (.inl ⟨by rfl, fun w hSw => ?_⟩) (by assumption) ?_
              rotate_left
              · (try dsimp only at hSw); go_simp; try with_reducible rfl
              simp only [Act.put, rg1, rg2, rg3, rg4, rg5, rg6]
              refine rgY 2 ?_ rfl (by kernel_rfl) (fun _ _ _ h => h) (.inl ⟨by rfl, fun w hSw => ?_⟩) (by assumption) ?_
              rotate_left
              · (try dsimp only at hSw); go_simp; try with_reducible rfl
              simp only [Act.put, rg1, rg2, rg3, rg4, rg5, rg6]
              refine rgY 4 ?_ rfl (by kernel_rfl) (fun _ _ _ h => h) (.inl ⟨by rfl, fun w hSw => ?_⟩) (by assumption) ?_
              rotate_left
              · (try dsimp only at hSw); go_simp; try with_reducible rfl
              simp only [Act.put, rg1, rg2, rg3, rg4, rg5, rg6]
              refine rgY 5 ?_ rfl (by kernel_rfl) (fun _ _ _ h => h) (.inl ⟨by rfl, fun w hSw => ?_⟩) (by assumption) ?_
              rotate_left
              · (try dsimp only at hSw); go_simp; try with_reducible rfl
              simp only [Act.put, rg1, rg2, rg3, rg4, rg5, rg6]
              refine rgY 6 ?_ rfl (by kernel_rfl) (fun _ _ _ h => h) (.inl ⟨by rfl, fun w hSw => ?_⟩) (by assumption) ?_
              rotate_left
              · (try dsimp only at hSw); go_simp; try with_reducible rfl
              simp only [Act.put, rg1, rg2, rg3, rg4, rg5, rg6]
              refine rgY 7 ?_ rfl (by kernel_rfl) (fun _ _ _ h => h) (.inl ⟨by rfl, fun w hSw => ?_⟩) (by assumption) ?_
              rotate_left
              · (try dsimp only at hSw); go_simp; try with_reducible rfl
              simp only [Act.put, rg1, rg2, rg3, rg4, rg5, rg6]
              refine rgY 8 ?_ rfl (by kernel_rfl) (fun _ _ _ h => h) (.inl ⟨by rfl, fun w hSw => ?_⟩) (by assumption) ?_
              rotate_left
              · (try dsimp only at hSw); go_simp; try with_reducible rfl
              simp only [Act.put, rg1, rg2, rg3, rg4, rg5, rg6]
              refine rgY 9 ?_ rfl (by kernel_rfl) (fun _ _ _ h => h) (.inl ⟨by rfl, fun w hSw => ?_⟩) (by assumption) ?_
              rotate_left
              · (try dsimp only at hSw); go_simp; try with_reducible rfl
              simp only [Act.put, rg1, rg2, rg3, rg4, rg5, rg6]
              refine rgY 10 ?_ rfl (by kernel_rfl) (fun _ _ _ h => h) (.inl ⟨by rfl, fun w hSw => ?_⟩) (by assumption) ?_
              rotate_left
              · (try dsimp only at hSw); go_simp; try with_reducible rfl
              simp only [Act.put, rg1, rg2, rg3, rg4, rg5, rg6]
              refine wpAnyH_ready (rs := [3]) (by kernel_rfl) (by simp) ?_
              refine AllReadyH.cons rfl (fun K hK => ?_) AllReadyH.nil
              simp only [List.getElem_toArray, List.getElem_cons_succ, List.getElem_cons_zero]
              go_simp
              refine hK.out _ _ ⟨g1, g2⟩ (fun hHeld => ?_)
              clear hK K
              refine rgY 11 ?_ rfl (by kernel_rfl) (fun _ _ _ h => h) (.inl ⟨by rfl, fun w hSw => ?_⟩) (by assumption) ?_
              rotate_left
              · (try dsimp only at hSw); go_simp; try with_reducible rfl
              simp only [Act.put, rg1, rg2, rg3, rg4, rg5, rg6]
              refine rgY 12 ?_ rfl (by kernel_rfl) (fun _ _ _ h => h) (.inl ⟨by rfl, fun w hSw => ?_⟩) (by assumption) ?_
              rotate_left
              · (try dsimp only at hSw); go_simp; try with_reducible rfl
              simp only [Act.put, rg1, rg2, rg3, rg4, rg5, rg6]
              refine wpAnyH_ready (rs := [13]) (by kernel_rfl) (by simp) ?_
              refine AllReadyH.cons rfl (fun K hK => ?_) AllReadyH.nil
              simp only [List.getElem_toArray, List.getElem_cons_succ, List.getElem_cons_zero]
              go_simp
              have hnew : Below w.heap.size w (wr.drew.setCell ⟨w.heap.size, j, none⟩ (.int .u8 (bits .xor .u8 (byt zo j) (byt zs' j)))) := (below_drewN hlo 1).setCell (Nat.le_refl _) _
              have k1 := (hnew.cell (p := ⟨b, off + k, none⟩) hbl').trans HCW.out
              have k2 := (hnew.cell (p := ⟨b3, o3 + j, none⟩) HN3.out).trans (HC3.out j hj64)
              refine hK.out _ _ ⟨k1, k2⟩ (fun hHeld => ?_)
              clear hK K
              refine wpAnyH_done (by kernel_rfl) ?_ _
              clear k1 k2
              go_wp2_with (fail)
              go_roundw
              case rel => exact ⟨j + 1, _, by omega, by omega, by go_num, (hbo.drewN 1).set j _, hmix.set (by rw [HL1.out]; exact hj64) (by rw [hmix.old j (Nat.le_refl _)]; exact HT.out j h4j hj64), hnew⟩
              case measure => simp [RowKit.intOf]; omega
            · obtain rfl : j = 64 := by omega
              have hz := hmix.done (fun j h h' => by rw [HL1.out] at h'; omega)
              rw [hz] at hbo
              clear hz
              go_wp2_with (fail)
              go_roundw
              case rel => exact ⟨k + 1, by omega, by go_num, hstp.out, hbo, hlo⟩
              case measure => simp [RowKit.intOf]; omega
      · have hno : Hid (oneUpto f (k + 1) = false) := by
          show _ = _
          rw [oneUpto, hz, hp.len]
          simp [is64, hm64]
        have hb3 := hb
        have hm' : ((m : Int) != 64) = true := by simp; omega
        clear hbk' hz hp hpw hcw hr hm
        go_wp2_with (fail)
        go_quiet (fail)
        go_wp2_with (fail)
        go_ret2
        rw [oneSeq_no hlt hno.out, parL, oneSeq_no hlt hno.out]
        exact ⟨_, _, _, rfl, Pin.zero _, (fun x hx => by cases hx), by first | exact below_drewN hb _ | exact hb⟩
    · obtain rfl : k = n := by omega
      have hP : Hid (oneSeq f k = true ∧ parL f k = outR f k) := by
        show _ ∧ _
        have h1 : oneSeq f k = true := by simp [oneSeq, hn0, HO.out]
        refine ⟨h1, ?_⟩
        obtain ⟨j, rfl⟩ : ∃ j, k = j + 1 := ⟨k - 1, by omega⟩
        rw [parL, h1, outR, sumR_sumP HSM.out (Nat.le_refl _) HO.out]
        rfl
      have hln : (outR f k).length = 64 := by rw [outR, List.length_append, sumR_len (Nat.le_refl _) HO.out, List.length_take, H64.out]; rfl
      have hpin := hbk'.pin (c := 64) (outR_small HSM.out hn0 (Nat.le_refl _)) hln (Nat.le_refl _) (by omega)
      clear hbk' hr hln
      go_wp2_with (fail)
      go_ret2
      rw [hP.out.1, hP.out.2]
      exact ⟨_, _, _, rfl, hpin, (fun x hx => by cases hx; exact Nat.le_refl _), hb⟩

end Go.Proofs.YtacnhlmhibhlhaaGreat

/-
  The reference's Parity, of whatever row.
-/
namespace Go.Proofs.YtacnhlmhibhlhaaGreat
open Go.RowKit

set_option maxHeartbeats 1000000 in
theorem refPar_any (a : Option Addr) (n c : Nat) (f : Nat → Pc) (w : World) (h : Rws w a n f) (hn : n ≤ 9223372036854775807) :
    Calls Tryz.prog 129 #[.slice a n c] w (RetN w (parL f n) (oneSeq f n)) := by
  by_cases h0 : n = 0
  · subst h0
    clear h
    go_enter Tryz.func129, Tryz.ntmps129
    go_wp2_with (fail)
    go_ret2
    exact ⟨_, _, _, rfl, Pin.zero _, (fun x hx => by cases hx), Below.refl _ _⟩
  · by_cases h64 : (f 0).zs.length = 64
    · exact refPar_some a n c f w h hn (by omega) h64
    · obtain ⟨b, off, x, m, d, zs, rfl, hbl, hc, hp, hz, hm⟩ := h.at (i := 0) (by omega)
      rw [Nat.add_zero] at hc
      have ho : oneSeq f n = false := by
        refine oneSeq_no (k := 1) (by omega) ?_
        simp [oneUpto, is64, h64]
      have hP : Hid (parL f n = []) := by show _ = _; rw [parL, ho]; rfl
      have HO := Lib.hid ho
      have hml : m ≠ 64 := by rw [← hp.len, ← hz]; exact h64
      have hm' : ((m : Int) != 64) = true := by simp; omega
      have hpc := hp.cap
      have hpm := hp.max
      have h1 : ((n : Int) == 0) = false := by simp; omega
      clear h hz hp hm ho h64 hml
      go_enter Tryz.func129, Tryz.ntmps129
      go_wp2_with (fail)
      go_ret2
      rw [hP.out, HO.out]
      exact ⟨_, _, _, rfl, Pin.zero _, (fun x hx => by cases hx), Below.refl _ _⟩

end Go.Proofs.YtacnhlmhibhlhaaGreat

/-
  The reference's Decode, by contract.
-/
namespace Go.Proofs.YtacnhlmhibhlhaaGreat
open Go.RowKit

set_option maxHeartbeats 1000000 in
theorem refDec_no (a : Option Addr) (n c : Nat) (x : List Int) (w : World) (hx : Pin w a n c x) (hn : n ≠ 64) :
    Calls Tryz.prog 45 #[.slice a n c] w (DecPost w x) := by
  have ho : Hid (decO x = false) := by show _ = _; simp [decO, hx.len, hn]
  have hi : ((n : Int) != 64) = true := by simp; omega
  clear hx hn
  go_enter Tryz.func45, Tryz.ntmps45
  go_wp2_with (fail)
  exact bodyPost_ret (v := .tuple #[hv 0 0 0, .slice none 0 0, .bool false]) (by simp [results, Tryz.results45, go_sem]) rfl (by
    rw [DecPost, decN, decN, decN, decL, ho.out]
    exact ⟨_, _, _, rfl, Pin.zero _, ((Below.refl _ _).alloc (Nat.le_refl _) _)⟩)

set_option maxHeartbeats 2000000 in
theorem refDec_yes (a : Option Addr) (c : Nat) (x : List Int) (w : World) (hx : Pin w a 64 c x) :
    Calls Tryz.prog 45 #[.slice a 64 c] w (DecPost w x) := by
  have ho : Hid (decO x = true) := by show _ = _; simp [decO, hx.len]
  obtain ⟨b, off, rfl, hlt, _⟩ := hx.at (by omega)
  have hcap := hx.cap
  have hmax := hx.max
  have hc8 : ¬ c = 8 := by omega
  have hx1 := (hx.alloc (.cells #[.int .i64 0, .int .i64 0, .int .i64 0] 102 (0, 0))).alloc (.cells #[.int .i64 0, .int .i64 0, .int .i64 0] 102 (0, 0))
  go_enter Tryz.func45, Tryz.ntmps45
  go_wp2_with (fail)
  refine (refGet_yes _ 64 c 0 4 x _ hx1.bys (by omega) (by omega) (by omega) (by omega)).mono ?_
  rintro e w1 ⟨rfl, rfl⟩
  obtain ⟨p, hp⟩ : ∃ p, p = getN x 0 4 := ⟨_, rfl⟩
  rw [← hp]
  have hP := Lib.hid hp
  clear hp
  go_wp2_with (fail)
  refine (refGet_yes _ 64 c 4 2 x _ ((hx.alloc _).alloc _).bys (by omega) (by omega) (by omega) (by omega)).mono ?_
  rintro e w1 ⟨rfl, rfl⟩
  obtain ⟨q, hq⟩ : ∃ p, p = getN x 4 2 := ⟨_, rfl⟩
  rw [← hq]
  have hQ := Lib.hid hq
  clear hq
  go_wp2_with (fail)
  refine (refGet_yes _ 64 c 6 2 x _ ((hx.alloc _).alloc _).bys (by omega) (by omega) (by omega) (by omega)).mono ?_
  rintro e w1 ⟨rfl, rfl⟩
  obtain ⟨r, hr⟩ : ∃ p, p = getN x 6 2 := ⟨_, rfl⟩
  rw [← hr]
  have hR := Lib.hid hr
  clear hr
  go_wp2_with (fail)
  obtain ⟨w2, hw2⟩ : ∃ w2, w2 = (w.alloc (.cells #[.int .i64 0, .int .i64 0, .int .i64 0] 102)).alloc (.cells #[.int .i64 p, .int .i64 q, .int .i64 r] 102) := ⟨_, rfl⟩
  have hd : Hx w2.drew (w.heap.size + 1) p q r := by rw [hw2]; have := Hx.mk' (w.alloc (.cells #[.int .i64 0, .int .i64 0, .int .i64 0] 102)) p q r 102; simpa using this.drew
  have hz : Rc w2.drew w.heap.size := by rw [hw2]; exact ((Rc.mk' w 102).alloc _).drew
  have hx2 : Pin w2.drew (some ⟨b, off, none⟩) 64 c x := by rw [hw2]; exact ((hx.alloc _).alloc _).drewN 1
  have hB2 : Below w.heap.size w w2.drew := by rw [hw2]; exact below_drewN (((Below.refl _ _).alloc (Nat.le_refl _) _).alloc (by simp) _) 1
  rw [← hw2]
  clear hw2 hx hx1
  have hc0 := hd.c0
  have hc1 := hd.c1
  have hc2 := hd.c2
  refine wp_region_held_drew (S := (fun w' => w'.cell? ⟨w.heap.size + 1, 0, none⟩ = some (.int .i64 p) ∧ w'.cell? ⟨w.heap.size + 1, 1, none⟩ = some (.int .i64 q) ∧ w'.cell? ⟨w.heap.size + 1, 2, none⟩ = some (.int .i64 r))) (by kernel_rfl) ?_ (fun hHeld => ?_)
  · exact ⟨hc0, hc1, hc2⟩
  refine rgY 0 ?_ rfl (by kernel_rfl) (fun _ _ _ h => h) (.inl ⟨by rfl, fun w hSw => ?_⟩) (by assumption) ?_
  rotate_left
  · (try dsimp only at hSw); go_simp; try with_reducible rfl
  simp only [Act.put, rg1, rg2, rg3, rg4, rg6]
  refine rgY 1 ?_ rfl (by kernel_rfl) (fun _ _ _ h => h) (.inl ⟨by rfl, fun w hSw => ?_⟩) (by assumption) ?_
  rotate_left
  · (try dsimp only at hSw); go_simp; try with_reducible rfl
  simp only [Act.put, rg1, rg2, rg3, rg4, rg5, rg6]
  refine rgY 2 ?_ rfl (by kernel_rfl) (fun _ _ _ h => h) (.inl ⟨by rfl, fun w hSw => ?_⟩) (by assumption) ?_
  rotate_left
  · (try dsimp only at hSw); go_simp; try with_reducible rfl
  simp only [Act.put, rg1, rg2, rg3, rg4, rg5, rg6]
  refine wpAnyH_ready (rs := [3]) (by kernel_rfl) (by simp) ?_
  refine AllReadyH.cons rfl (fun K hK => ?_) AllReadyH.nil
  simp only [List.getElem_toArray, List.getElem_cons_succ, List.getElem_cons_zero]
  go_simp
  refine (copy_any _ 56 (c - 8) (x.drop 8) _ (hx2.rest 8).bys (fun h => by cases h) (by omega)).mono ?_
  rintro e w3 ⟨v3, rfl, ho3, hb3⟩
  have hd3 := hd.next hb3
  have hz3 := hz.next hb3
  have hB3 := hB2.trans (hb3.mono hB2.size)
  have hz2lt := hz.lt
  have hxl : (x.drop 8).length = 56 := by rw [List.length_drop, hx2.len]
  have HXL := Lib.hid hxl
  clear hd hz hB2 hb3 hx2 hxl
  obtain ⟨v0, z0⟩ := hz3.c0
  obtain ⟨v1, z1⟩ := hz3.c1
  obtain ⟨v2, z2⟩ := hz3.c2
  have f0 := hz3.f0
  have f1 := hz3.f1
  have f2 := hz3.f2
  go_wp2_with (fail)
  refine hK.out _ _ ⟨hd3.c0, hd3.c1, hd3.c2⟩ (fun hHeld => ?_)
  clear hK K
  refine wpAnyH_ready (rs := [4]) (by kernel_rfl) (by simp) ?_
  refine AllReadyH.cons rfl (fun K hK => ?_) AllReadyH.nil
  simp only [List.getElem_toArray, List.getElem_cons_succ, List.getElem_cons_zero]
  go_simp
  have hd4 : Hx (setH w3 w.heap.size p q r) (w.heap.size + 1) p q r := hd3.setOther (by omega)
  have hr4 : Hx (setH w3 w.heap.size p q r) w.heap.size p q r := hz3.set p q r
  have ho4 : Own (setH w3 w.heap.size p q r) w2.drew.heap.size v3 56 (x.drop 8) := ho3.setH hz2lt
  have hB4 : Below w.heap.size w (setH w3 w.heap.size p q r) := hB3.setH (Nat.le_refl _)
  refine hK.out _ (setH w3 w.heap.size p q r) ⟨hd4.c0, hd4.c1, hd4.c2⟩ (fun hHeld => ?_)
  clear hK K
  obtain ⟨w4, hw4⟩ : ∃ w4, w4 = setH w3 w.heap.size p q r := ⟨_, rfl⟩
  rw [← hw4] at hd4 hr4 ho4 hB4 hHeld ⊢
  clear hw4
  obtain ⟨a4, c4, rfl, hp4, _⟩ := ho4.pin
  refine rgY 5 ?_ rfl (by kernel_rfl) (fun _ _ _ h => h) (.inl ⟨by rfl, fun w hSw => ?_⟩) (by assumption) ?_
  rotate_left
  · (try dsimp only at hSw); go_simp; try with_reducible rfl
  simp only [Act.put, rg1, rg2, rg3, rg4, rg5, rg6]
  refine rgY 6 ?_ rfl (by kernel_rfl) (fun _ _ _ h => h) (.inl ⟨by rfl, fun w hSw => ?_⟩) (by assumption) ?_
  rotate_left
  · (try dsimp only at hSw); go_simp; try with_reducible rfl
  simp only [Act.put, rg1, rg2, rg3, rg4, rg5, rg6]
  refine wpAnyH_done (by kernel_rfl) ?_ _
  go_wp2_with (fail)
  have g0 := hr4.c0
  have g1 := hr4.c1
  have g2 := hr4.c2
  exact bodyPost_ret (v := .tuple #[hv p q r, .slice a4 56 c4, .bool true]) (by simp [results, Tryz.results45, go_sem, g0, g1, g2]) rfl (by
    rw [DecPost, decN, decN, decN, decL, ho.out, ← hP.out, ← hQ.out, ← hR.out]
    exact ⟨_, _, _, rfl, hp4, hB4⟩)

theorem refDec_any (a : Option Addr) (n c : Nat) (x : List Int) (w : World) (hx : Pin w a n c x) : Calls Tryz.prog 45 #[.slice a n c] w (DecPost w x) := by
  by_cases h : n = 64
  · subst h; exact refDec_yes a c x w hx
  · exact refDec_no a n c x w hx h

end Go.Proofs.YtacnhlmhibhlhaaGreat
