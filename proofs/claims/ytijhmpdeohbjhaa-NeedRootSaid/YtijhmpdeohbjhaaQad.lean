/-
  Trees, plainly: Right by the places that are met: as the program looks for it.
-/
import Derived.Test.YtijhmpdeohbjhaaQac
import Derived.Test.YtijhmpdeohbjhaaQab
import Derived.Test.YtijhmpdeohbjhaaQaa
import Derived.Lib.AppendStr
import Derived.Deep.AppendLies
set_option linter.unusedVariables false
set_option linter.unusedSimpArgs false
namespace Go.Proofs.Ytijhmpdeohbjhaa
set_option linter.unusedVariables false
set_option linter.unusedSimpArgs false

/-- Is a node wrong by itself, as the program looks for it? -/
def wrongB (n : Nat) (x : Nd) : Bool :=
  if x.k = 1 then decide (0 < x.e.length) || decide (46368 < x.d.length)
  else if x.k = 2 then decide (0 < x.d.length) || !(rgt x.e && !(x.e.any fun y => decide ((n : Int) ≤ y.i)))
  else true
/-- Is a node in order among the others? -/
def inOrd (L : List Nd) (i : Nat) : Bool :=
  decide (i ∈ met (chs L)) && (decide (plc (chs L) i = i) && (decide (lnkM L i = (nat L i).l) &&
    (if isD (nat L i) then decide (i = 0) || decide (cntE (chs L) (met (chs L)) i = 1) else decide (cntE (chs L) (met (chs L)) i ≤ 200))))
theorem wrongB_iff {n : Nat} (hn : n ≤ 56) {x : Nd} : wrongB n x = false ↔ fileOk x ∨ dirOk n x := by
  unfold wrongB
  by_cases h1 : x.k = 1
  · rw [if_pos h1]
    simp only [Bool.or_eq_false_iff, decide_eq_false_iff_not]
    constructor
    · rintro ⟨a, b⟩
      exact .inl ⟨h1, List.length_eq_zero_iff.1 (by omega), by omega⟩
    · rintro (h | h)
      · exact ⟨by rw [h.2.1]; simp, by have := h.2.2; omega⟩
      · have := h.1
        omega
  · rw [if_neg h1]
    by_cases h2 : x.k = 2
    · rw [if_pos h2]
      simp only [Bool.or_eq_false_iff, decide_eq_false_iff_not, Bool.not_eq_false', Bool.and_eq_true, Bool.not_eq_true', List.any_eq_false, decide_eq_true_eq]
      constructor
      · rintro ⟨a, b, c⟩
        obtain ⟨b1, b2, b3⟩ := rgt_all b
        refine .inr ⟨h2, List.length_eq_zero_iff.1 (by omega), b1, fun y hy => ?_, b3⟩
        have := List.all_eq_true.1 b2 y hy
        simp only [okE, Bool.and_eq_true, decide_eq_true_eq] at this
        have h9 := c y hy
        exact ⟨this.1.1, this.1.2, by omega⟩
      · rintro (h | h)
        · exact absurd h.1 h1
        · obtain ⟨_, h3, h4, h5, h6⟩ := h
          refine ⟨by rw [h3]; simp, rgt_yes h4 (List.all_eq_true.2 fun y hy => ?_) h6, fun y hy => ?_⟩
          · obtain ⟨a, b, c⟩ := h5 y hy
            simp only [okE, Bool.and_eq_true, decide_eq_true_eq]
            exact ⟨⟨a, b⟩, by omega⟩
          · have := (h5 y hy).2.2
            omega
    · rw [if_neg h2]
      constructor
      · intro h; cases h
      · rintro (h | h)
        · exact absurd h.1 h1
        · exact absurd h.1 h2
theorem met_range {L : List Nd} (hc : ∀ x, x < L.length → ∀ k ∈ chs L x, k < L.length) (h0 : 0 < L.length) (h : ∀ i, i < L.length → i ∈ met (chs L) ∧ plc (chs L) i = i) : met (chs L) = List.range L.length := by
  have hlen : (met (chs L)).length = L.length := by
    refine Nat.le_antisymm (met_len hc h0) ?_
    have h1 : (L.length - 1) < (met (chs L)).length := by
      have := (h (L.length - 1) (by omega))
      have := List.idxOf_lt_length_of_mem this.1
      have e : plc (chs L) (L.length - 1) = L.length - 1 := (h (L.length - 1) (by omega)).2
      unfold plc at e
      omega
    omega
  refine List.ext_getElem (by rw [hlen, List.length_range]) fun i a b => ?_
  rw [List.getElem_range]
  obtain ⟨hm, hp⟩ := h i (by omega)
  unfold plc at hp
  have := List.getElem_idxOf (List.idxOf_lt_length_of_mem hm)
  simpa only [hp] using this
theorem right_form {L : List Nd} : rightB L = (decide (1 ≤ L.length) && (decide (L.length ≤ 56) && (isD (nat L 0) && (!(L.any (wrongB L.length)) && (List.range L.length).all (inOrd L))))) := by
  rw [Bool.eq_iff_iff, rightB_iff]
  simp only [Bool.and_eq_true, decide_eq_true_eq, Bool.not_eq_true', List.all_eq_true (l := List.range L.length), List.mem_range]
  have lnk_eq : met (chs L) = List.range L.length → ∀ i, lnkM L i = lnk L i := fun hm i => by
    unfold lnkM lnk
    rw [cnt_up hm]
  constructor
  · intro h
    refine ⟨h.pos, h.few, h.root, ?_, fun i hi => ?_⟩
    · rw [List.any_eq_false]
      intro x hx
      obtain ⟨i, hi, rfl⟩ := List.getElem_of_mem hx
      rw [← nat_get hi, (wrongB_iff h.few).2]
      · decide
      · rcases h.node i hi with h1 | h1
        · exact .inl h1.1
        · exact .inr h1
    · have hm : i ∈ met (chs L) := by rw [h.met]; exact List.mem_range.2 hi
      have hp : plc (chs L) i = i := by
        unfold plc
        rw [h.met]
        have e9 := (List.nodup_range (n := L.length)).idxOf_getElem i (by simpa using hi)
        rw [List.getElem_range] at e9
        exact e9
      unfold inOrd
      rw [decide_eq_true hm, decide_eq_true hp, decide_eq_true ((lnk_eq h.met i).trans (h.link i hi))]
      simp only [Bool.true_and]
      rw [cnt_up h.met]
      cases hd : isD (nat L i) with
      | true =>
        simp only [if_true]
        by_cases e : i = 0
        · simp [e]
        · rw [h.one i (by omega) hi hd]
          simp
      | false =>
        simp only [Bool.false_eq_true, if_false, decide_eq_true_eq]
        rcases h.node i hi with ⟨_, _, h3⟩ | h1
        · have := h.link i hi
          unfold lnk at this
          rw [hd] at this
          simp at this
          omega
        · rw [isD_dir h1] at hd
          cases hd
  · rintro ⟨h1, h2, h3, h4, h5⟩
    rw [List.any_eq_false] at h4
    have hnode : ∀ i, i < L.length → fileOk (nat L i) ∨ dirOk L.length (nat L i) := fun i hi => by
      refine (wrongB_iff h2).1 ?_
      have := h4 _ (List.getElem_mem hi)
      rw [← nat_get hi] at this
      simpa using this
    have hc : ∀ x, x < L.length → ∀ k ∈ chs L x, k < L.length := fun x hx k hk => (node_ino (hnode x hx) k hk).2
    have hin : ∀ i, i < L.length → (i ∈ met (chs L) ∧ plc (chs L) i = i) ∧ lnkM L i = (nat L i).l ∧ (if isD (nat L i) then decide (i = 0) || decide (cntE (chs L) (met (chs L)) i = 1) else decide (cntE (chs L) (met (chs L)) i ≤ 200)) = true := fun i hi => by
      have := h5 i hi
      unfold inOrd at this
      simp only [Bool.and_eq_true, decide_eq_true_eq] at this
      exact ⟨⟨this.1, this.2.1⟩, this.2.2.1, this.2.2.2⟩
    have hm := met_range hc (by omega) fun i hi => (hin i hi).1
    refine ⟨h1, h2, h3, fun i hi => ?_, hm, fun i hi => (lnk_eq hm i).symm.trans (hin i hi).2.1, fun i h0 hi hd => ?_⟩
    · rcases hnode i hi with h | h
      · have hd := isD_file h
        have h6 := (hin i hi).2.2
        have h7 := (lnk_eq hm i).symm.trans (hin i hi).2.1
        unfold lnk at h7
        rw [hd] at h6 h7
        simp only [Bool.false_eq_true, if_false, decide_eq_true_eq] at h6 h7
        rw [cnt_up hm] at h6
        refine .inl ⟨h, ?_, by omega⟩
        have hi0 : i ≠ 0 := by
          rintro rfl
          rw [hd] at h3
          cases h3
        have hmi : i ∈ met (chs L) := (hin i hi).1.1
        rcases met_from (chs L) i hmi with e | ⟨y, hy, hxy⟩
        · exact absurd e hi0
        · have hu : 1 ≤ up L i := by
            rw [← cnt_up hm, cntE]
            have q1 := sum_mem (g := fun a => (chs L a).count i) hy
            have q2 : 1 ≤ (chs L y).count i := List.count_pos_iff.2 hxy
            exact Nat.le_trans q2 q1
          omega
      · exact .inr h
    · have h6 := (hin i hi).2.2
      rw [hd, cnt_up hm] at h6
      simp only [if_true, Bool.or_eq_true, decide_eq_true_eq] at h6
      omega
end Go.Proofs.Ytijhmpdeohbjhaa

/-
  Plain numbers: a number's bytes, the lowest first.
-/
namespace Go.Proofs.Ytijhmpdeohbjhaa
open Go.RowKit

def digs : Nat → Int → List Int
  | 0, _ => []
  | m + 1, n => n % 256 :: digs m (n / 256)
theorem digs_len (m : Nat) (n : Int) : (digs m n).length = m := by
  induction m generalizing n with
  | zero => rfl
  | succ m ih => simp [digs, ih]
theorem byt_digs (m : Nat) (n : Int) (i : Nat) (h : i < m) : byt (digs m n) i = n / 256 ^ i % 256 := by
  induction m generalizing n i with
  | zero => omega
  | succ m ih =>
    cases i with
    | zero => simp [digs, byt]
    | succ i =>
      have := ih (n / 256) i (by omega)
      rw [show byt (digs (m + 1) n) (i + 1) = byt (digs m (n / 256)) i from rfl, this, Int.pow_succ', Int.ediv_ediv_of_nonneg (by omega)]

theorem dig_at {m k : Nat} (n : Int) (h : k < m) : n / 2 ^ (8 * k) % 256 = byt (digs m n) k := by
  rw [byt_digs m n k h, Int.pow_mul]
  rfl

end Go.Proofs.Ytijhmpdeohbjhaa

/-
  The program's two questions on widths, by contract.
-/
namespace Go.Proofs.Ytijhmpdeohbjhaa
open Go.RowKit

def isW (n : Int) : Bool := decide (1 ≤ n ∧ n ≤ 4)
theorem isW_true {n : Int} (h : 1 ≤ n ∧ n ≤ 4) : isW n = true := by simp [isW, h]
theorem isW_false {n : Int} (h : ¬ (1 ≤ n ∧ n ≤ 4)) : isW n = false := by simp only [isW, decide_eq_false_iff_not]; exact h
def hasW (n k : Int) : Bool := decide (0 ≤ n ∧ n < 2 ^ (8 * k).toNat)
theorem lim_wrap {k : Int} (h1 : 1 ≤ k) (h4 : k ≤ 4) : wrap64 (2 ^ (8 * k).toNat) = 2 ^ (8 * k).toNat := by
  rcases (by omega : k = 1 ∨ k = 2 ∨ k = 3 ∨ k = 4) with rfl | rfl | rfl | rfl <;> simp [wrap64]
theorem lim_le {k : Int} (h1 : 1 ≤ k) (h4 : k ≤ 4) : (2 : Int) ^ (8 * k).toNat ≤ 4294967296 := by
  rcases (by omega : k = 1 ∨ k = 2 ∨ k = 3 ∨ k = 4) with rfl | rfl | rfl | rfl <;> decide
theorem hasW_lt {n k : Int} (h0 : 0 ≤ n) (h1 : 1 ≤ k) (h4 : k ≤ 4) : decide (n < wrap64 (2 ^ (8 * k).toNat)) = hasW n k := by
  rw [lim_wrap h1 h4]; simp [hasW, h0]
theorem hasW_bd {n k : Int} (h : hasW n k = true) (h1 : 1 ≤ k) (h4 : k ≤ 4) : 0 ≤ n ∧ n < 4294967296 := by
  have := lim_le h1 h4
  simp only [hasW, decide_eq_true_eq] at h
  omega

theorem isWidth_any (n : Int) (w : World) : Calls Try.prog 49 #[.int .i64 n] w fun e w' => e = .returned (.bool (isW n)) ∧ w = w' := by
  by_cases h1 : 1 ≤ n
  · by_cases h4 : n ≤ 4
    · have hs : Hid (isW n = true) := isW_true ⟨h1, h4⟩
      go_enter Try.func49, Try.ntmps49
      go_wp2
      go_ret
      exact ⟨ret_bool hs.out.symm, rfl⟩
    · have hs : Hid (isW n = false) := isW_false (by omega)
      go_enter Try.func49, Try.ntmps49
      go_wp2
      go_ret
      exact ⟨ret_bool hs.out.symm, rfl⟩
  · have hs : Hid (isW n = false) := isW_false (by omega)
    go_enter Try.func49, Try.ntmps49
    go_wp2
    go_ret
    exact ⟨ret_bool hs.out.symm, rfl⟩

theorem hasWidth_any (n k : Int) (w : World) (h1 : 1 ≤ k) (h4 : k ≤ 4) : Calls Try.prog 50 #[.int .i64 n, .int .i64 k] w fun e w' => e = .returned (.bool (hasW n k)) ∧ w = w' := by
  by_cases h0 : 0 ≤ n
  · go_enter Try.func50, Try.ntmps50
    go_wp2
    go_ret
    exact ⟨ret_bool (hasW_lt h0 h1 h4), rfl⟩
  · have hs : Hid (hasW n k = false) := by show _ = _; simp only [hasW, decide_eq_false_iff_not]; omega
    go_enter Try.func50, Try.ntmps50
    go_wp2
    go_ret
    exact ⟨ret_bool hs.out.symm, rfl⟩

end Go.Proofs.Ytijhmpdeohbjhaa

/-
  The program's Put, by contract: a number's bytes in a new block, or the nil slice.
-/
namespace Go.Proofs.Ytijhmpdeohbjhaa
open Go.RowKit

set_option maxHeartbeats 400000 in
theorem put_yes (m : Nat) (n : Int) (w : World) (h1 : 1 ≤ m) (h4 : m ≤ 4) (hw : hasW n m = true) :
    Calls Try.prog 45 #[.int .i64 m, .int .i64 n] w fun e w' => e = .returned (.slice (some ⟨w.heap.size, 0, none⟩) m m) ∧ Blk w' w.heap.size (digs m n) ∧ Below w.heap.size w w' := by
  have hi : Hid (isW m = true) := isW_true (by omega)
  obtain ⟨hn0, hn1⟩ := hasW_bd hw (by omega) (by omega)
  have hh : Hid (hasW n m = true) := hw
  clear hw
  go_enter Try.func45, Try.ntmps45
  go_wp2_with (first
    | (go_at_call 49; refine (isWidth_any _ _).mono ?_; rintro e w' ⟨rfl, rfl⟩; rw [hi.out])
    | (go_at_call 50; refine (hasWidth_any _ _ _ (by omega) (by omega)).mono ?_; rintro e w' ⟨rfl, rfl⟩; rw [hh.out])
    | (at_make; refine wpList_mk rfl _ _ rfl _ _ _ _ m rfl rfl rfl rfl (by omega) ?_; intro w1 hb1 hl1))
  go_loopw [20] (fun i wr => ∃ (k : Nat) (zs : List Int), k ≤ m ∧ i = .int .i64 k ∧ Blk wr w.heap.size zs ∧ Mix zs (List.replicate m 0) (digs m n) k ∧ Below w.heap.size w wr)
    (fun i _ => m - (RowKit.intOf i).toNat)
  case atStart => exact ⟨0, _, Nat.zero_le _, rfl, hb1, Mix.start (by rw [digs_len]; simp), hl1⟩
  case round =>
    obtain ⟨k, zs, hk, rfl, hb, hmix, hl⟩ := hrel
    clear hb1 hl1
    by_cases hlt : k < m
    · have hf := hb.free k
      have hc : wr.cell? ⟨w.heap.size, k, none⟩ = some (.int .u8 (byt zs k)) := hb.cell (by rw [hmix.len, digs_len]; exact hlt)
      go_wp2
      go_roundw
      case rel => exact ⟨k + 1, _, by omega, by go_num, hb.set k _, hmix.set (by rw [digs_len]; exact hlt) (dig_at n hlt), hl.setCell (Nat.le_refl _) _⟩
      case measure => simp [RowKit.intOf]; omega
    · obtain rfl : k = m := by omega
      have hz : Hid (zs = digs k n) := hmix.done (fun j h h' => by rw [digs_len] at h'; omega)
      go_wp2
      go_ret
      exact ⟨rfl, by rw [← hz.out]; exact hb, hl⟩

end Go.Proofs.Ytijhmpdeohbjhaa

/-
  Encode of the program and of the document, by contract.
-/
namespace Go.Proofs.Ytijhmpdeohbjhaa
open Go.RowKit
set_option linter.unusedVariables false
set_option linter.unusedSimpArgs false

/-- Bytes, as the cells of a slice have them. -/
def bI (l : List UInt8) : List Int := l.map fun b => ((b.toNat : Nat) : Int)
theorem bI_len (l : List UInt8) : (bI l).length = l.length := by simp [bI]
theorem bI_all (l : List UInt8) : AllB (bI l) := fun z hz => by
  obtain ⟨b, _, rfl⟩ := List.mem_map.1 hz
  have := b.toNat_lt
  omega
theorem str_cells (s : ByteArray) : Lib.strCells s = (bI s.data.toList).map (Value.int .u8) := by
  unfold Lib.strCells bI
  rw [List.map_map]
  rfl
/-- An entry's bytes. -/
def encE (e : En) : List Int := [e.i, 0, (e.s.size : Int)] ++ bI e.s.data.toList
/-- Entries' bytes. -/
def encL (L : List En) : List Int := L.flatMap encE
/-- What Encode answers. -/
def encO (L : List En) : List Int := if rgt L then encL L else []
theorem okE_all {e : En} (h : okE e = true) : nmB e.s.data.toList = true ∧ 1 ≤ e.i ∧ e.i ≤ 56 ∧ 1 ≤ e.s.size ∧ e.s.size ≤ 12 := by
  unfold okE at h
  rw [Bool.and_eq_true, Bool.and_eq_true, decide_eq_true_eq, decide_eq_true_eq] at h
  obtain ⟨⟨h1, h2⟩, h3⟩ := h
  refine ⟨h1, h2, h3, ?_⟩
  unfold nmB at h1
  simp only [Bool.and_eq_true, decide_eq_true_eq] at h1
  have hs := Lib.size_eq e.s
  omega
theorem encE_len {e : En} : (encE e).length = 3 + e.s.size := by
  unfold encE
  rw [List.length_append, bI_len, ← Lib.size_eq]
  rfl
theorem digs2 {i : Int} (h1 : 1 ≤ i) (h2 : i ≤ 56) : digs 2 i = [i, 0] := by
  simp [digs]; omega
theorem digs1 {i : Int} (h1 : 0 ≤ i) (h2 : i ≤ 56) : digs 1 i = [i] := by
  simp [digs]; omega
theorem hasW2 {i : Int} (h1 : 1 ≤ i) (h2 : i ≤ 56) : hasW i ((2 : Nat) : Int) = true := by
  unfold hasW
  simp
  omega
theorem hasW1 {i : Int} (h1 : 0 ≤ i) (h2 : i ≤ 56) : hasW i ((1 : Nat) : Int) = true := by
  unfold hasW
  simp
  omega
theorem encL_step {L : List En} {k : Nat} (hk : k < L.length) : encL (L.take (k + 1)) = encL (L.take k) ++ encE (eat L k) := by
  rw [← take_snoc hk]
  simp [encL]
theorem encL_len {L : List En} (h : L.all okE = true) : (encL L).length ≤ L.length * 15 := by
  induction L with
  | nil => simp [encL]
  | cons x L ih =>
    rw [List.all_cons, Bool.and_eq_true] at h
    have := ih h.2
    have h2 := okE_all h.1
    have h3 := encE_len (e := x)
    simp only [encL, List.flatMap_cons, List.length_append, List.length_cons] at *
    omega
theorem all_at {L : List En} (h : L.all okE = true) {k : Nat} (hk : k < L.length) : okE (eat L k) = true := List.all_eq_true.1 h _ (eat_mem hk)
theorem all_take {L : List En} (h : L.all okE = true) (k : Nat) : (L.take k).all okE = true := by
  rw [List.all_eq_true] at *
  exact fun x hx => h x (List.mem_of_mem_take hx)
theorem own_nil8 (w : World) (B : Nat) : Own w B (.slice none 0 0) 0 [] := ⟨World.ownsRow_nil _ _ _ _, fun z hz => by cases hz⟩
/-- Bytes and a bool that a call answers; the bytes are its own. -/
def EncPost (w : World) (zs : List Int) (ok : Bool) (e : Ending) (w' : World) : Prop := ∃ v, e = .returned (.tuple #[v, .bool ok]) ∧ Own w' w.heap.size v zs.length zs ∧ Below w.heap.size w w'
theorem bys_news {w : World} {p : Addr} {m : Nat} {ys : List Int} (hy : Bys w (some p) m ys) : ∀ j u, (ys.map (Value.int .u8))[j]? = some u → w.cell? (p.add j) = some u := by
  intro j u hj
  have hjm : j < m := by
    rcases Nat.lt_or_ge j m with h | h
    · exact h
    · rw [List.getElem?_eq_none (by simp [hy.len]; omega)] at hj; cases hj
  have hv : u = .int .u8 (byt ys j) := by
    rw [List.getElem?_map] at hj
    have hjx : j < ys.length := by rw [hy.len]; exact hjm
    simp [List.getElem?_eq_getElem hjx] at hj
    simp [byt, List.getD, hjx, hj]
  rcases hy.place with h0 | ⟨b, off, hp, _, hcell⟩
  · omega
  · cases hp
    rw [hv, add_e]
    exact hcell j hjm
theorem ints_one (ys : List Int) : ∀ u ∈ ys.map (Value.int .u8), u.oneCell' = true := fun u hu => by
  obtain ⟨z, _, rfl⟩ := List.mem_map.1 hu
  rfl
/-- 'append(s, x...)' of bytes, s of the call's own; and what else lies stays. -/
theorem wpList_apk {w : World} {ops : Array Oper} {rest : List Oper} {o : Oper} {a : Act} {Q : Exit → Act → World → Prop} (hgd : o.guard = none) (s x : Operand)
    (ho : o.op = .call { callee := .builtin .append, args := #[s, x], argTypes := #[22, 22] })
    (B : Nat) (v : Value) (n : Nat) (zs : List Int) (hs : a.eval s = v) (hown : Own w B v n zs) (p : Addr) (m c : Nat) (ys : List Int) (hx : a.eval x = .slice (some p) m c) (hy : Bys w (some p) m ys) (hm : 0 < m)
    (hnm : n + m ≤ 140737488355328) (hB : B ≤ w.heap.size) (w0 : World) (hb : Below B w0 w)
    (h : ∀ g cap w', Own w' B (.slice (some ⟨g, 0, none⟩) (n + m) cap) (n + m) (zs ++ ys) → Below B w0 w' → w.grownBy w' v.ownBlock → (v.ownBlock = some g ∨ g = w.heap.size) → wpList Try.prog ops Q rest (a.put o.dst (.slice (some ⟨g, 0, none⟩) (n + m) cap)) w') : wpList Try.prog ops Q (o :: rest) a w := by
  obtain ⟨i0, hi, hz0, hz1, hz2⟩ := info_parts info8
  refine wpList_append_lies w hgd s x 22 ho B 5 i0 (.int .u8 0) 1 1 Try.underlying22 hi hz0 hz1 hz2 rfl (by decide) v n _ hs hown.row p m c (ys.map (Value.int .u8)) hx (by simp [hy.len]) (bys_news hy) (ints_one ys) hm (by unfold maxLen; omega) (by omega) hB _ rfl ?_
  intro g cap w' hown' hgrow hat _
  exact h g cap w' ⟨by rw [List.map_append]; exact hown', hown.small.app hy.small⟩ (hb.grown hgrow hB fun k hk => (hown.row.lt k hk).1) hgrow hat
/-- 'append(s, t...)', t a text. -/
theorem wpList_aps {w : World} {ops : Array Oper} {rest : List Oper} {o : Oper} {a : Act} {Q : Exit → Act → World → Prop} (hgd : o.guard = none) (s x : Operand)
    (ho : o.op = .call { callee := .builtin .append, args := #[s, x], argTypes := #[22, 9] })
    (B : Nat) (v : Value) (n : Nat) (zs : List Int) (hs : a.eval s = v) (hown : Own w B v n zs) (t : ByteArray) (hx : a.eval x = .string t)
    (hnm : n + t.size ≤ 140737488355328) (hB : B ≤ w.heap.size) (w0 : World) (hb : Below B w0 w)
    (h : ∀ v' w', Own w' B v' (n + t.size) (zs ++ bI t.data.toList) → Below B w0 w' → wpList Try.prog ops Q rest (a.put o.dst v') w') : wpList Try.prog ops Q (o :: rest) a w := by
  obtain ⟨i0, hi, hz0, hz1, hz2⟩ := info_parts info8
  refine Lib.wpList_append_own_string w hgd s x _ _ ho B 5 i0 Try.underlying22 Try.underlying9 hi hz0 hz1 hz2 v n _ hs hown.row t hx (by unfold maxLen; omega) hnm hB ?_
  intro v' w' hown' hgrow _
  refine h v' w' ⟨?_, hown.small.app (bI_all _)⟩ (hb.grown hgrow hB fun k hk => (hown.row.lt k hk).1)
  rw [List.map_append, ← str_cells]
  exact hown'
end Go.Proofs.Ytijhmpdeohbjhaa

/-
  The program's Encode, by contract.
-/
namespace Go.Proofs.Ytijhmpdeohbjhaa
open Go.RowKit
set_option linter.unusedVariables false
set_option linter.unusedSimpArgs false

theorem box_apart {w0 w : World} {v : Value} {g : Nat} (h : v.ownBlock = some g ∨ g = w.heap.size) (hl : ∀ k, v.ownBlock = some k → k < w0.heap.size) (hs : w0.heap.size + 1 ≤ w.heap.size) : g ≠ w0.heap.size := by
  rcases h with h | h
  · have := hl g h; omega
  · omega
set_option maxHeartbeats 4000000 in
theorem encode_any (a : Option Addr) (n c : Nat) (L : List En) (w : World) (h : Ens w a n L) (hn : n ≤ 1000000) :
    Calls Try.prog 40 #[.slice a n c] w (EncPost w (encO L) (rgt L)) := by
  have hl := h.len
  subst hl
  have har := areRight_any a L.length c L w h (by omega)
  have HH := Lib.hid h
  clear h
  cases hr : rgt L with
  | false =>
    rw [hr] at har
    have he := Lib.hid (show encO L = [] by unfold encO; rw [hr]; rfl)
    clear hr
    go_enter Try.func40, Try.ntmps40
    go_wp2_with (fail)
    refine har.mono ?_
    rintro e w1 ⟨rfl, hb1⟩
    have HB1 := Lib.hid hb1
    clear hb1 har
    go_wp2_with (fail)
    go_ret2
    exact ⟨_, rfl, by rw [he.out]; exact own_nil8 _ _, HB1.out⟩
  | true =>
    rw [hr] at har
    obtain ⟨h64, hall, _⟩ := rgt_all hr
    have he := Lib.hid (show encO L = encL L by unfold encO; rw [hr]; rfl)
    have HA := Lib.hid hall
    clear hr hall
    go_enter Try.func40, Try.ntmps40
    go_wp2_with (fail)
    refine har.mono ?_
    rintro e w1 ⟨rfl, hb1⟩
    have HB1 := Lib.hid hb1
    clear hb1 har
    go_wp2_with (fail)
    go_loopw [4, 6, 12] (fun v4 _ v wr => ∃ (k m : Nat) (zs : List Int), k ≤ L.length ∧ v = .int .i64 k ∧ encL (L.take k) = zs ∧ Own wr w.heap.size v4 m zs ∧ Below w.heap.size w wr) (fun _ _ v _ => L.length - (RowKit.intOf v).toNat)
    case atStart => exact ⟨0, 0, [], by omega, rfl, rfl, own_nil8 _ _, HB1.out⟩
    case round =>
      obtain ⟨k, m, zs, hk, rfl, hzs, hO, hB⟩ := hrel
      have HO := Lib.hid hO
      have HB := Lib.hid hB
      by_cases hlt : k < L.length
      · have k1 : (k : Int) < (L.length : Int) := by omega
        have k0 : (0 : Int) ≤ (k : Int) := by omega
        obtain ⟨b, off, rfl, hbl, hd1, hd2⟩ := (HH.out.next hB).at hlt
        obtain ⟨va, vc, rfl, _⟩ := hO.form
        have hm := hO.len
        have hle := encL_len (all_take HA.out k)
        rw [List.length_take, hzs, hm] at hle
        have hst := encL_step hlt
        obtain ⟨hok1, hok2, hok3, hok4, hok5⟩ := okE_all (all_at HA.out hlt)
        obtain ⟨s, hs⟩ : ∃ s, (eat L k).s = s := ⟨_, rfl⟩
        obtain ⟨i, hi⟩ : ∃ i, (eat L k).i = i := ⟨_, rfl⟩
        have hen : encE (eat L k) = [i, 0] ++ [(s.size : Int)] ++ bI s.data.toList := by unfold encE; rw [hs, hi]; rfl
        rw [hs] at hd1 hok4 hok5
        rw [hi] at hd2 hok2 hok3
        rw [hen, hzs] at hst
        have HST := Lib.hid hst
        have HZS := Lib.hid hzs
        have HM := Lib.hid hm
        have hbx : Below wr.heap.size wr (wr.alloc (.cells #[.string s, .int .i64 i] 74 (0, 0))) := (Below.refl _ _).alloc (Nat.le_refl _) _
        have hput := put_yes 2 i (wr.alloc (.cells #[.string s, .int .i64 i] 74 (0, 0))) (by omega) (by omega) (hasW2 hok2 hok3)
        rw [digs2 hok2 hok3, show (wr.alloc (.cells #[.string s, .int .i64 i] 74 (0, 0))).heap.size = wr.heap.size + 1 by simp] at hput
        have HO0 := Lib.hid hO
        have HLO := Lib.hid (show ∀ k, (Value.slice va m vc).ownBlock = some k → k < wr.heap.size from fun k h => (hO.row.lt k h).2)
        have HBX := Lib.hid hbx
        have hws := HB.out.size
        clear hO hB hbl hst hen hs hi hzs hm hbx HO hok1
        go_wp2_with (fail)
        refine hput.mono ?_
        rintro e w2 ⟨rfl, hbk, hb2⟩
        have hbw : Below wr.heap.size wr w2 := HBX.out.trans (hb2.mono (by omega))
        have HO2 := Lib.hid (HO0.out.below (Nat.le_refl _) hbw)
        have HB2 := Lib.hid (HB.out.trans (hbw.mono hws))
        have HK2 := Lib.hid (hbk.all (fun z hz => by simp at hz; omega))
        have hs2 := hbw.size
        have hs2' : wr.heap.size + 1 ≤ w2.heap.size := by simpa using hb2.size
        have d0 := hb2.cell (p := ⟨wr.heap.size, 0, none⟩) (by simp)
        rw [show (wr.alloc (.cells #[.string s, .int .i64 i] 74 (0, 0))).cell? ⟨wr.heap.size, 0, none⟩ = some (.string s) by simp] at d0
        have HD2 := Lib.hid d0
        clear hbw hbk hb2 hput d0
        go_wp2_with
          (at_builtin
           refine wpList_apk rfl (.tmp 16) (.tmp 19) rfl w.heap.size _ m zs rfl HO2.out ⟨wr.heap.size + 1, 0, none⟩ 2 2 [i, 0] rfl HK2.out (by omega) (by omega) (by omega) w HB2.out ?_
           intro g3 c3 w3 ho3 hb3 hgr3 hat3
           have e0 := hgr3.cell (a := ⟨wr.heap.size, 0, none⟩) HD2.out (fun e => absurd (HLO.out _ e.symm) (Nat.lt_irrefl _))
           have hs3 := hgr3.size
           have HG3 := Lib.hid (box_apart hat3 HLO.out hs2')
           have HE3 := Lib.hid e0
           have HO3 := Lib.hid ho3
           have HB3 := Lib.hid hb3
           clear hgr3 hat3 ho3 hb3)
        have hput1 := put_yes 1 ((s.size : Nat) : Int) w3 (by omega) (by omega) (hasW1 (by omega) (by omega))
        rw [digs1 (by omega) (by omega)] at hput1
        refine hput1.mono ?_
        rintro e w4 ⟨rfl, hbk4, hb4⟩
        have e0' := (hb4.cell (p := ⟨wr.heap.size, 0, none⟩) (show wr.heap.size < w3.heap.size by omega)).trans HE3.out
        have HE4 := Lib.hid e0'
        have HO4 := Lib.hid (HO3.out.below (Nat.le_refl _) hb4)
        have HB4 := Lib.hid (HB3.out.trans (hb4.mono HB3.out.size))
        have HK4 := Lib.hid (hbk4.all (fun z hz => by simp at hz; omega))
        have hs4 := hb4.size
        clear hb4 hbk4 hput1 e0 e0'
        go_wp2_with (first
          | (at_builtin
             refine wpList_apk rfl (.tmp 21) (.tmp 25) rfl w.heap.size _ (m + 2) (zs ++ [i, 0]) rfl HO4.out ⟨w3.heap.size, 0, none⟩ 1 1 [(s.size : Int)] rfl HK4.out (by omega) (by omega) (by omega) w HB4.out ?_
             intro g5 c5 w5 ho5 hb5 hgr5 hat5
             have e5 := hgr5.cell (a := ⟨wr.heap.size, 0, none⟩) HE4.out (fun e => HG3.out (Option.some.inj e).symm)
             have hs5 := hgr5.size
             have HO5 := Lib.hid ho5
             have HB5 := Lib.hid hb5
             clear hgr5 hat5 ho5 hb5)
          | (at_builtin
             refine wpList_aps rfl (.tmp 27) (.tmp 29) rfl w.heap.size _ (m + 2 + 1) (zs ++ [i, 0] ++ [(s.size : Int)]) rfl HO5.out s rfl (by omega) (by omega) w HB5.out ?_
             intro v6 w6 ho6 hb6
             have HO6 := Lib.hid ho6
             have HB6 := Lib.hid hb6
             clear ho6 hb6))
        go_roundw
        case rel => exact ⟨k + 1, m + 2 + 1 + s.size, zs ++ [i, 0] ++ [(s.size : Int)] ++ bI s.data.toList, by omega, by go_num, by rw [HST.out]; simp, HO6.out, HB6.out⟩
        case measure => simp [RowKit.intOf]; omega
      · obtain rfl : k = L.length := by omega
        have k1 : ¬ (L.length : Int) < (L.length : Int) := by omega
        rw [List.take_of_length_le (Nat.le_refl _)] at hzs
        subst hzs
        obtain rfl := hO.len
        have HO2 := Lib.hid hO
        clear hO hB
        go_wp2_with (fail)
        go_ret2
        exact ⟨_, rfl, by rw [he.out]; exact HO2.out, HB.out⟩
end Go.Proofs.Ytijhmpdeohbjhaa

/-
  Right's closures over entries and nodes: by contract.
-/
namespace Go.Proofs.Ytijhmpdeohbjhaa
open Go.RowKit
set_option linter.unusedVariables false
set_option linter.unusedSimpArgs false

/-- A worker that lies still in all that is made behind w0; and a box of its address. -/
structure Bx1 (w0 : World) (q wb n c : Nat) (na : Option Addr) (f : Nat → Nc) : Prop where
  box : w0.cell? ⟨q, 0, none⟩ = some (.pointer (some ⟨wb, 0, none⟩))
  lt : q < w0.heap.size
  wr : Wr w0 wb na n c f
theorem enters_120 (args : Array Value) (w : World) : (callFunc 43 args).run Try.prog w = .ok (.enter 43 args) w := enters_of (P := Try.prog) Try.func43 (by kernel_rfl) rfl args w
section
variable {w0 : World} {q wb n c : Nat} {na : Option Addr} {f : Nat → Nc}
set_option maxHeartbeats 2000000 in
theorem gives_120 (h : Bx1 w0 q wb n c na f) (hn : n ≤ 1000000) : Gives 43 #[.pointer (some ⟨q, 0, none⟩)] (fun y => decide ((n : Int) ≤ y.i)) w0 := by
  rintro ⟨s, i⟩ w hb
  have c1 := (hb.cell (p := ⟨q, 0, none⟩) h.lt).trans h.box
  have c0 := (h.wr.next hb).c0
  have hwl := (h.wr.next hb).lt
  have hql : q < w.heap.size := Nat.lt_of_lt_of_le h.lt hb.size
  clear h hb
  unfold env
  simp only
  go_enter Try.func43, Try.ntmps43
  go_wp2_with (fail)
  go_quiet (fail)
  go_wp2_with (fail)
  go_ret
  exact ⟨rfl, below_drewN ((Below.refl _ _).alloc (Nat.le_refl _) _) _⟩
end
section
variable {w : World} {wb n c : Nat} {na : Option Addr} {f : Nat → Nc}
set_option maxHeartbeats 2000000 in
theorem areEntries_any (h : Wr w wb na n c f) (hn : n ≤ 1000000) {a : Option Addr} {m k : Nat} {E : List En} (hE : Ens w a m E) (hm : m ≤ 1000000) :
    Calls Try.prog 35 #[.pointer (some ⟨wb, 0, none⟩), .slice a m k] w fun e w' => e = .returned (.bool (rgt E && !(E.any fun y => decide ((n : Int) ≤ y.i)))) ∧ Below w.heap.size w w' := by
  have hmf : ∀ (fn : Fn) (first cap : Array Value) (w : World), (Instr.makeFunc fn first cap).run Try.prog w = .ok (.func fn first cap) w := fun _ _ _ _ => rfl
  obtain ⟨w1, hw1⟩ : ∃ w1, w1 = w.alloc (.cells #[.pointer (some ⟨wb, 0, none⟩)] 56 (0, 0)) := ⟨_, rfl⟩
  obtain ⟨q, hq⟩ : ∃ q, q = w.heap.size := ⟨_, rfl⟩
  have hb1 : Below w.heap.size w w1 := by rw [hw1]; exact (Below.refl _ _).alloc (Nat.le_refl _) _
  have c1 : w1.cell? ⟨q, 0, none⟩ = some (.pointer (some ⟨wb, 0, none⟩)) := by rw [hw1, hq]; simp
  have hql : q < w1.heap.size := by rw [hw1, hq]; simp
  have hen := encode_any a m k E w1 (hE.next hb1) hm
  have HB1 := Lib.hid hb1
  have C1 := Lib.hid c1
  have HQL := Lib.hid hql
  have HW := Lib.hid (h.next hb1)
  have HE := Lib.hid (hE.next hb1)
  clear h hE hb1 c1 hql
  cases hr : rgt E with
  | false =>
    rw [hr] at hen
    go_enter Try.func35, Try.ntmps35
    go_wp2_with (fail)
    rw [← hw1, ← hq]
    clear hw1 hq
    refine hen.mono ?_
    rintro e w2 ⟨v, rfl, _, hb2⟩
    have HB2 := Lib.hid (HB1.out.trans (hb2.mono HB1.out.size))
    clear hb2 hen
    go_wp2_with (fail)
    go_ret
    exact ⟨rfl, HB2.out⟩
  | true =>
    rw [hr] at hen
    go_enter Try.func35, Try.ntmps35
    go_wp2_with (fail)
    rw [← hw1, ← hq]
    clear hw1 hq
    refine hen.mono ?_
    rintro e w2 ⟨v, rfl, _, hb2⟩
    have hbx : Bx1 w2 q wb n c na f := ⟨(hb2.cell (p := ⟨q, 0, none⟩) HQL.out).trans C1.out, Nat.lt_of_lt_of_le HQL.out hb2.size, HW.out.next hb2⟩
    have hct := contains_any _ #[.pointer (some ⟨q, 0, none⟩)] enters_120 _ w2 (gives_120 hbx hn) a m k E (HE.out.next hb2) (by omega)
    have HB2 := Lib.hid (HB1.out.trans (hb2.mono HB1.out.size))
    clear hb2 hen hbx
    cases hx : E.any fun y => decide ((n : Int) ≤ y.i) with
    | false =>
      have HX := Lib.hid hx
      rw [hx] at hct
      clear hx
      go_wp2_with (fail)
      refine hct.mono ?_
      rintro e w3 ⟨rfl, hb3⟩
      have HB3 := Lib.hid (HB2.out.trans (hb3.mono HB2.out.size))
      clear hb3 hct
      go_wp2_with (fail)
      go_ret
      exact ⟨by rw [HX.out]; rfl, HB3.out⟩
    | true =>
      have HX := Lib.hid hx
      rw [hx] at hct
      clear hx
      go_wp2_with (fail)
      refine hct.mono ?_
      rintro e w3 ⟨rfl, hb3⟩
      have HB3 := Lib.hid (HB2.out.trans (hb3.mono HB2.out.size))
      clear hb3 hct
      go_wp2_with (fail)
      go_ret
      exact ⟨by rw [HX.out]; rfl, HB3.out⟩
end
end Go.Proofs.Ytijhmpdeohbjhaa

/-
  A worker copies a node, with the places of what was met: by contract.
-/
namespace Go.Proofs.Ytijhmpdeohbjhaa
open Go.RowKit
set_option linter.unusedVariables false
set_option linter.unusedSimpArgs false

/-- The block of a node's variable. -/
def NdB1 (w : World) (b : Nat) (vs : Array Value) : Prop := w.heap[b]? = some (.cells vs 50 (0, 0))
theorem NdB1.cells {w : World} {b : Nat} {v0 v1 v2 v3 : Value} (h : NdB1 w b #[v0, v1, v2, v3]) : w.cell? ⟨b, 0, none⟩ = some v0 ∧ w.cell? ⟨b, 1, none⟩ = some v1 ∧ w.cell? ⟨b, 2, none⟩ = some v2 ∧ w.cell? ⟨b, 3, none⟩ = some v3 := by
  unfold NdB1 at h
  refine ⟨?_, ?_, ?_, ?_⟩ <;> simp [World.cell?, h]
section
variable {w : World} {wb pb eb n c : Nat} {na : Option Addr} {f : Nat → Nc}
end
end Go.Proofs.Ytijhmpdeohbjhaa

/-
  Right's test of each node by itself: isWrong; slices.ContainsFunc over nodes, with a bound method: by contract.
-/
namespace Go.Proofs.Ytijhmpdeohbjhaa
open Go.RowKit
set_option linter.unusedVariables false
set_option linter.unusedSimpArgs false

/-- A node's value. -/
def nodeV (x : Nc) : Value := .agg #[.int .i64 x.k, .int .i64 x.l, .slice x.da x.dn x.dc, .slice x.ea x.en x.ec]
section
variable {w : World} {wb n c : Nat} {na : Option Addr} {f : Nat → Nc}
set_option maxHeartbeats 4000000 in
theorem isWrong_any (h : Wr w wb na n c f) (hn : n ≤ 1000000) (x : Nc) (hE : Ens w x.ea x.en x.e) (hd : x.d.length = x.dn) (hm : x.en ≤ 1000000) :
    Calls Try.prog 29 #[.pointer (some ⟨wb, 0, none⟩), nodeV x] w fun e w' => e = .returned (.bool (wrongB n x.nd)) ∧ Below w.heap.size w w' := by
  obtain ⟨k, l, da, dn, dc, d, ea, en, ec, E⟩ := x
  unfold nodeV Nc.nd
  simp only at hE hd hm ⊢
  obtain ⟨w1, hw1⟩ : ∃ w1, w1 = w.alloc (.cells #[.int .i64 k, .int .i64 l, .slice da dn dc, .slice ea en ec] 50 (0, 0)) := ⟨_, rfl⟩
  obtain ⟨q, hq⟩ : ∃ q, q = w.heap.size := ⟨_, rfl⟩
  have hb1 : Below w.heap.size w w1 := by rw [hw1]; exact (Below.refl _ _).alloc (Nat.le_refl _) _
  have hcc : NdB1 w1 q #[.int .i64 k, .int .i64 l, .slice da dn dc, .slice ea en ec] := by rw [hw1, hq]; exact heap_alloc_new w _
  obtain ⟨c0, c1, c2, c3⟩ := hcc.cells
  have hae := areEntries_any (h.next hb1) hn (k := ec) (hE.next hb1) hm
  have HB1 := Lib.hid hb1
  have hl := hE.len
  have hsE : Hid (wrongB n ⟨k, l, d, E⟩ = if k = 1 then decide (0 < E.length) || decide (46368 < d.length) else if k = 2 then decide (0 < d.length) || !(rgt E && !(E.any fun y => decide ((n : Int) ≤ y.i))) else true) := Lib.hid rfl
  rw [hl, hd] at hsE
  clear h hE hb1 hcc
  by_cases h1 : k = 1
  · have HS : Hid (wrongB n ⟨k, l, d, E⟩ = (decide (0 < en) || decide (46368 < dn))) := Lib.hid (by rw [hsE.out, if_pos h1])
    clear hsE hae
    subst h1
    by_cases h2 : 0 < en
    · have g0 : (0 : Int) < (en : Int) := by omega
      have HG : Hid ((decide (0 < en) || decide (46368 < dn)) = true) := Lib.hid (by rw [decide_eq_true h2]; rfl)
      clear h2
      go_enter Try.func29, Try.ntmps29
      go_wp2_with (fail)
      go_ret
      exact ⟨by rw [HS.out, HG.out]; rfl, by rw [← hw1]; exact HB1.out⟩
    · obtain rfl : en = 0 := by omega
      by_cases h3 : 46368 < dn
      · have g1 : (46368 : Int) < (dn : Int) := by omega
        have HG : Hid ((decide (0 < 0) || decide (46368 < dn)) = true) := Lib.hid (by rw [decide_eq_true h3, Bool.or_true])
        clear h2 h3
        go_enter Try.func29, Try.ntmps29
        go_wp2_with (fail)
        go_ret
        exact ⟨by rw [HS.out, HG.out]; rfl, by rw [← hw1]; exact HB1.out⟩
      · have g1 : ¬ (46368 : Int) < (dn : Int) := by omega
        have HG : Hid ((decide (0 < 0) || decide (46368 < dn)) = false) := Lib.hid (by rw [decide_eq_false h3]; rfl)
        clear h2 h3
        go_enter Try.func29, Try.ntmps29
        go_wp2_with (fail)
        go_ret
        exact ⟨by rw [HS.out, HG.out]; rfl, by rw [← hw1]; exact HB1.out⟩
  · by_cases h2 : k = 2
    · have HS : Hid (wrongB n ⟨k, l, d, E⟩ = (decide (0 < dn) || !(rgt E && !(E.any fun y => decide ((n : Int) ≤ y.i))))) := Lib.hid (by rw [hsE.out, if_neg h1, if_pos h2])
      clear hsE
      subst h2
      clear h1
      by_cases h3 : 0 < dn
      · have g0 : (0 : Int) < (dn : Int) := by omega
        have HG : Hid ((decide (0 < dn) || !(rgt E && !(E.any fun y => decide ((n : Int) ≤ y.i)))) = true) := Lib.hid (by rw [decide_eq_true h3]; rfl)
        clear h3 hae
        go_enter Try.func29, Try.ntmps29
        go_wp2_with (fail)
        go_ret
        exact ⟨by rw [HS.out, HG.out]; rfl, by rw [← hw1]; exact HB1.out⟩
      · obtain rfl : dn = 0 := by omega
        obtain ⟨ok, hok⟩ : ∃ ok, ok = (rgt E && !(E.any fun y => decide ((n : Int) ≤ y.i))) := ⟨_, rfl⟩
        rw [← hok] at hae
        have HG : Hid ((decide (0 < 0) || !(rgt E && !(E.any fun y => decide ((n : Int) ≤ y.i)))) = !ok) := Lib.hid (by rw [hok]; rfl)
        clear h3 hok
        go_enter Try.func29, Try.ntmps29
        go_wp2_with (fail)
        rw [← hw1, ← hq]
        clear hw1 hq
        go_wp2_with (fail)
        refine hae.mono ?_
        rintro e w2 ⟨rfl, hb2⟩
        have HB2 := Lib.hid (HB1.out.trans (hb2.mono HB1.out.size))
        clear hb2 hae
        go_wp2_with (fail)
        go_ret
        exact ⟨by rw [HS.out, HG.out]; rfl, HB2.out⟩
    · have HS : Hid (wrongB n ⟨k, l, d, E⟩ = true) := Lib.hid (by rw [hsE.out, if_neg h1, if_neg h2])
      clear hsE hae
      go_enter Try.func29, Try.ntmps29
      go_wp2_with (fail)
      go_ret
      exact ⟨by rw [HS.out]; rfl, by rw [← hw1]; exact HB1.out⟩
end
/-- What a bound method answers of nodes: p, wherever all that lay in w0 lies still. -/
def GivesN (g : FuncId) (fs : Array Value) (p : Nd → Bool) (n : Nat) (f : Nat → Nc) (w0 : World) : Prop :=
  ∀ (i : Nat) (w : World), i < n → Below w0.heap.size w0 w → Calls Try.prog g (fs ++ #[nodeV (f i)]) w fun e w' => e = .returned (.bool (p (f i).nd)) ∧ Below w.heap.size w w'
def NoToN (p : Nd → Bool) (f : Nat → Nc) (k : Nat) : Prop := ∀ j, j < k → p (f j).nd = false
theorem NoToN.zero (p : Nd → Bool) (f : Nat → Nc) : NoToN p f 0 := fun j h => by omega
theorem NoToN.succ {p : Nd → Bool} {f : Nat → Nc} {k : Nat} (h : NoToN p f k) (e : p (f k).nd = false) : NoToN p f (k + 1) := fun j hj => by
  by_cases hk : j = k
  · rw [hk]; exact e
  · exact h j (by omega)
def IxN (p : Nd → Bool) (n : Nat) (f : Nat → Nc) (r : Int) : Prop := (r = -1 ∧ NoToN p f n) ∨ ∃ k : Nat, k < n ∧ r = (k : Int) ∧ p (f k).nd = true
theorem IxN.any {p : Nd → Bool} {n : Nat} {f : Nat → Nc} {r : Int} (h : IxN p n f r) : decide (0 ≤ r) = (ndL f n).any p := by
  rcases h with ⟨rfl, h⟩ | ⟨k, hk, rfl, e⟩
  · symm
    rw [show decide ((0 : Int) ≤ -1) = false from rfl, List.any_eq_false]
    intro x hx
    obtain ⟨i, hi, rfl⟩ := List.mem_map.1 hx
    rw [h i (List.mem_range.1 hi)]
    decide
  · symm
    rw [decide_eq_true (by omega), List.any_eq_true]
    exact ⟨(f k).nd, List.mem_map.2 ⟨k, List.mem_range.2 hk, rfl⟩, e⟩
set_option maxHeartbeats 2000000 in
theorem indexN_any (g : FuncId) (fs : Array Value) (eg : ∀ args w, (callFunc g args).run Try.prog w = .ok (.enter g args) w) (p : Nd → Bool) (w : World) (a : Option Addr) (n c : Nat) (f : Nat → Nc) (hg : GivesN g fs p n f w) (h : Nds w a n f) (hn : n ≤ 1000000) :
    Calls Try.prog 34 #[.slice a n c, .func (.func g) fs #[]] w fun e w' => ∃ r : Int, e = .returned (.int .i64 r) ∧ IxN p n f r ∧ Below w.heap.size w w' := by
  go_enter Try.func34, Try.ntmps34
  go_wp2_with (fail)
  go_loopw [5, 8] (fun _ v wr => ∃ k : Nat, k ≤ n ∧ v = .int .i64 k ∧ Below w.heap.size w wr ∧ NoToN p f k) (fun _ v _ => n - (RowKit.intOf v).toNat)
  case atStart => exact ⟨0, by omega, rfl, Below.refl _ _, NoToN.zero _ _⟩
  case round =>
    obtain ⟨k, hk, rfl, hB, hI⟩ := hrel
    have HI := Lib.hid hI
    have HB := Lib.hid hB
    by_cases hlt : k < n
    · have k1 : (k : Int) < (n : Int) := by omega
      have k0 : (0 : Int) ≤ (k : Int) := by omega
      obtain ⟨b, off, rfl, hbl, d0, d1, d2, d3⟩ := (h.next hB).at hlt
      have hcall := hg k wr hlt hB
      unfold nodeV at hcall
      clear h hB hI hg hbl
      cases hb : p (f k).nd with
      | false =>
        rw [hb] at hcall
        go_wp2_with (go_at_fn g; refine hcall.mono ?_; rintro e w' ⟨rfl, hb'⟩)
        have HB2 := Lib.hid (HB.out.trans (hb'.mono HB.out.size))
        clear hb' hcall
        go_roundw
        case rel => exact ⟨k + 1, by omega, by go_num, HB2.out, HI.out.succ hb⟩
        case measure => simp [RowKit.intOf]; omega
      | true =>
        rw [hb] at hcall
        go_wp2_with (go_at_fn g; refine hcall.mono ?_; rintro e w' ⟨rfl, hb'⟩)
        have HB2 := Lib.hid (HB.out.trans (hb'.mono HB.out.size))
        clear hb' hcall
        go_ret
        exact ⟨k, rfl, .inr ⟨k, hlt, rfl, hb⟩, HB2.out⟩
    · obtain rfl : k = n := by omega
      clear h hB hI hg
      go_wp2_with (fail)
      go_ret
      exact ⟨-1, rfl, .inl ⟨rfl, HI.out⟩, HB.out⟩
set_option maxHeartbeats 1000000 in
theorem containsN_any (g : FuncId) (fs : Array Value) (eg : ∀ args w, (callFunc g args).run Try.prog w = .ok (.enter g args) w) (p : Nd → Bool) (w : World) (a : Option Addr) (n c : Nat) (f : Nat → Nc) (hg : GivesN g fs p n f w) (h : Nds w a n f) (hn : n ≤ 1000000) :
    Calls Try.prog 28 #[.slice a n c, .func (.func g) fs #[]] w fun e w' => e = .returned (.bool ((ndL f n).any p)) ∧ Below w.heap.size w w' := by
  have hi := indexN_any g fs eg p w a n c f hg h hn
  clear hg h
  go_enter Try.func28, Try.ntmps28
  go_wp2_with (fail)
  refine hi.mono ?_
  rintro e w' ⟨r, rfl, hr, hb⟩
  have hr' := hr.any
  have HB := Lib.hid hb
  clear hr hb hi
  go_wp2_with (fail)
  go_ret
  exact ⟨by rw [← hr']; rfl, HB.out⟩
theorem enters_49 (args : Array Value) (w : World) : (callFunc 29 args).run Try.prog w = .ok (.enter 29 args) w := enters_of (P := Try.prog) Try.func29 (by kernel_rfl) rfl args w
theorem gives_49 {w : World} {wb n c : Nat} {na : Option Addr} {f : Nat → Nc} (h : Wr w wb na n c f) (hn : n ≤ 1000000) (hm : ∀ i, i < n → (f i).en ≤ 1000000) :
    GivesN 29 #[.pointer (some ⟨wb, 0, none⟩)] (wrongB n) n f w := fun i w' hi hb =>
  isWrong_any (h.next hb) hn (f i) ((h.next hb).nds.ents i hi).ens ((h.next hb).nds.data i hi).bys.len (hm i hi)
end Go.Proofs.Ytijhmpdeohbjhaa
