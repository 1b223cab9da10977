/-
  Entries, plainly: what is a name, which entries are right, what Find, Put and Cut answer.
-/
import Derived.Test.YtiedapiepklhlaaRows
import Derived.Lib.ConvBytes
import Derived.Lib.Strings
namespace Go.Proofs.Ytiedapiepklhlaa
set_option linter.unusedVariables false
set_option linter.unusedSimpArgs false

/-- A byte that a name may have. -/
def okB (b : UInt8) : Bool := !(b == 0) && !(b == 47)
/-- Is it a name? -/
def nmB (l : List UInt8) : Bool := decide (1 ≤ l.length) && decide (l.length ≤ 12) && !(l == [46]) && !(l == [46, 46]) && l.all okB
/-- The text of bytes l. -/
def tx (l : List UInt8) : ByteArray := ⟨l.toArray⟩
theorem tx_data (s : ByteArray) : tx s.data.toList = s := Lib.mk_data s
theorem data_tx (l : List UInt8) : (tx l).data.toList = l := by simp [tx]
/-- An entry. -/
structure En where
  s : ByteArray
  i : Int
deriving DecidableEq
instance : Inhabited En := ⟨⟨ByteArray.empty, 0⟩⟩
theorem En.ext' {x y : En} (h : x.s = y.s) (k : x.i = y.i) : x = y := by
  cases x; cases y; simp at h k; simp [h, k]
/-- The entry at a place. -/
def eat (L : List En) (i : Nat) : En := L.getD i default
theorem eat_get {L : List En} {i : Nat} (h : i < L.length) : L[i]? = some (eat L i) := by simp [eat, List.getD, h]
theorem eat_mem {L : List En} {i : Nat} (h : i < L.length) : eat L i ∈ L := by simp [eat, List.getD, h]
/-- Is the one text below the other? -/
def blt (x y : ByteArray) : Bool := Op.bytesLess x.toList y.toList
/-- Are they the same? -/
def beqS (x y : ByteArray) : Bool := x.toList == y.toList
theorem beqS_iff {x y : ByteArray} : beqS x y = true ↔ x = y := by
  unfold beqS
  rw [beq_iff_eq, Lib.toList_data, Lib.toList_data]
  constructor
  · intro h
    have := congrArg tx h
    rwa [tx_data, tx_data] at this
  · intro h; rw [h]
theorem beqS_refl (x : ByteArray) : beqS x x = true := beqS_iff.2 rfl
theorem bl_irrefl : ∀ l : List UInt8, Op.bytesLess l l = false
  | [] => rfl
  | b :: l => by
    rw [Op.bytesLess, bl_irrefl l, Bool.and_false, Bool.or_false, decide_eq_false_iff_not]
    exact UInt8.lt_irrefl b
theorem bl_trans : ∀ {x y z : List UInt8}, Op.bytesLess x y = true → Op.bytesLess y z = true → Op.bytesLess x z = true
  | [], [], _, h, _ => by cases h
  | _ :: _, [], _, h, _ => by cases h
  | _, _ :: _, [], _, k => by cases k
  | [], _ :: _, _ :: _, _, _ => rfl
  | a :: x, b :: y, c :: z, h, k => by
    rw [Op.bytesLess, Bool.or_eq_true, Bool.and_eq_true, decide_eq_true_eq, beq_iff_eq] at *
    rcases h with h | ⟨rfl, h⟩
    · rcases k with k | ⟨rfl, k⟩
      · exact .inl (UInt8.lt_trans h k)
      · exact .inl h
    · rcases k with k | ⟨rfl, k⟩
      · exact .inl k
      · exact .inr ⟨rfl, bl_trans h k⟩
theorem bl_total : ∀ {x y : List UInt8}, Op.bytesLess x y = false → Op.bytesLess y x = false → x = y
  | [], [], _, _ => rfl
  | [], _ :: _, h, _ => by cases h
  | _ :: _, [], _, k => by cases k
  | a :: x, b :: y, h, k => by
    rw [Op.bytesLess, Bool.or_eq_false_iff, decide_eq_false_iff_not] at h k
    have e : a = b := UInt8.le_antisymm (UInt8.not_lt.1 k.1) (UInt8.not_lt.1 h.1)
    subst e
    have h2 : Op.bytesLess x y = false := by simpa using h.2
    have k2 : Op.bytesLess y x = false := by simpa using k.2
    rw [bl_total h2 k2]
theorem blt_irrefl (x : ByteArray) : blt x x = false := bl_irrefl _
theorem blt_trans {x y z : ByteArray} (h : blt x y = true) (k : blt y z = true) : blt x z = true := bl_trans h k
theorem blt_total {x y : ByteArray} (h : blt x y = false) (k : blt y x = false) : x = y := by
  have e := bl_total h k
  exact beqS_iff.1 (by unfold beqS; rw [e]; exact beq_self_eq_true _)
theorem blt_asymm {x y : ByteArray} (h : blt x y = true) : blt y x = false := by
  cases k : blt y x with
  | false => rfl
  | true => have := blt_trans h k; rw [blt_irrefl] at this; cases this
theorem blt_ne {x y : ByteArray} (h : blt x y = true) : x ≠ y := fun e => by rw [e, blt_irrefl] at h; cases h
/-- May it be an entry? -/
def okE (e : En) : Bool := nmB e.s.data.toList && decide (1 ≤ e.i) && decide (e.i ≤ 56)
/-- Do names rise? -/
def ris : List En → Bool
  | [] => true
  | [_] => true
  | x :: y :: r => blt x.s y.s && ris (y :: r)
/-- Are these the entries of a directory? -/
def rgt (L : List En) : Bool := decide (L.length ≤ 64) && L.all okE && ris L
/-- Ahead of place k each name is above the one ahead of it. -/
def RisTo (L : List En) (k : Nat) : Prop := ∀ j, j + 1 < k → blt (eat L j).s (eat L (j + 1)).s = true
theorem RisTo.one (L : List En) : RisTo L 1 := fun j h => by omega
theorem RisTo.zero (L : List En) : RisTo L 0 := fun j h => by omega
theorem RisTo.succ {L : List En} {k : Nat} (h : RisTo L k) (e : ∀ j, j + 1 = k → blt (eat L j).s (eat L (j + 1)).s = true) : RisTo L (k + 1) := fun j hj => by
  by_cases hk : j + 1 = k
  · exact e j hk
  · exact h j (by omega)
theorem ris_iff : ∀ L : List En, ris L = true ↔ RisTo L L.length
  | [] => ⟨fun _ => RisTo.zero _, fun _ => rfl⟩
  | [x] => ⟨fun _ => RisTo.one _, fun _ => rfl⟩
  | x :: y :: r => by
    rw [ris, Bool.and_eq_true, ris_iff (y :: r)]
    constructor
    · rintro ⟨h, k⟩ j hj
      cases j with
      | zero => exact h
      | succ j =>
        have := k j (by simpa using hj)
        simpa [eat] using this
    · intro h
      refine ⟨h 0 (by simp), fun j hj => ?_⟩
      have := h (j + 1) (by simpa using hj)
      simpa [eat] using this
theorem RisTo.ris {L : List En} (h : RisTo L L.length) : ris L = true := (ris_iff L).2 h
theorem not_ris {L : List En} {k : Nat} (hk : k + 1 < L.length) (e : blt (eat L k).s (eat L (k + 1)).s = false) : ris L = false := by
  cases h : ris L with
  | false => rfl
  | true => have := (ris_iff L).1 h k hk; rw [e] at this; cases this
/-- The entries ahead of place k may be ones. -/
def OkEs (L : List En) (k : Nat) : Prop := ∀ j, j < k → okE (eat L j) = true
theorem OkEs.zero (L : List En) : OkEs L 0 := fun j h => by omega
theorem OkEs.succ {L : List En} {k : Nat} (h : OkEs L k) (e : okE (eat L k) = true) : OkEs L (k + 1) := fun j hj => by
  by_cases hk : j = k
  · rw [hk]; exact e
  · exact h j (by omega)
theorem OkEs.all {L : List En} (h : OkEs L L.length) : L.all okE = true := by
  rw [List.all_eq_true]
  intro x hx
  obtain ⟨i, hi, rfl⟩ := List.getElem_of_mem hx
  have := h i hi
  simpa [eat, List.getD, hi] using this
theorem not_allE {L : List En} {k : Nat} (hk : k < L.length) (e : okE (eat L k) = false) : L.all okE = false := by
  rw [List.all_eq_false]
  refine ⟨eat L k, eat_mem hk, by rw [e]; decide⟩
theorem rgt_long {L : List En} (h : 64 < L.length) : rgt L = false := by unfold rgt; rw [decide_eq_false (by omega)]; rfl
theorem rgt_bad {L : List En} (h : L.all okE = false) : rgt L = false := by unfold rgt; rw [h, Bool.and_false]; rfl
theorem rgt_fall {L : List En} (h : ris L = false) : rgt L = false := by unfold rgt; rw [h, Bool.and_false]
theorem rgt_yes {L : List En} (h : L.length ≤ 64) (k : L.all okE = true) (r : ris L = true) : rgt L = true := by unfold rgt; rw [decide_eq_true h, k, r]; rfl
theorem rgt_all {L : List En} (h : rgt L = true) : L.length ≤ 64 ∧ L.all okE = true ∧ ris L = true := by
  unfold rgt at h
  rw [Bool.and_eq_true, Bool.and_eq_true, decide_eq_true_eq] at h
  exact ⟨h.1.1, h.1.2, h.2⟩

/-- The first place whose entry isn't below n; how many there are, if there is none. -/
def efix (L : List En) (n : ByteArray) : Nat := L.findIdx fun e => !(blt e.s n)
/-- Has it that name? -/
def ehas (L : List En) (n : ByteArray) : Bool := decide (efix L n < L.length) && beqS (eat L (efix L n)).s n
theorem efix_le (L : List En) (n : ByteArray) : efix L n ≤ L.length := List.findIdx_le_length
/-- All ahead of place k are below n. -/
def LowTo (L : List En) (n : ByteArray) (k : Nat) : Prop := ∀ j, j < k → blt (eat L j).s n = true
theorem LowTo.zero (L : List En) (n : ByteArray) : LowTo L n 0 := fun j h => by omega
theorem LowTo.succ {L : List En} {n : ByteArray} {k : Nat} (h : LowTo L n k) (e : blt (eat L k).s n = true) : LowTo L n (k + 1) := fun j hj => by
  by_cases hk : j = k
  · rw [hk]; exact e
  · exact h j (by omega)
theorem LowTo.here {L : List En} {n : ByteArray} {k : Nat} (h : LowTo L n k) (hk : k < L.length) (e : blt (eat L k).s n = false) : efix L n = k := by
  unfold efix
  rw [List.findIdx_eq hk]
  refine ⟨?_, fun j hj => ?_⟩
  · have : L[k] = eat L k := by simp [eat, List.getD, hk]
    rw [this, e]; rfl
  · have : L[j] = eat L j := by simp [eat, List.getD, show j < L.length by omega]
    rw [this, h j hj]; rfl
theorem LowTo.none {L : List En} {n : ByteArray} (h : LowTo L n L.length) : efix L n = L.length := by
  unfold efix
  rw [List.findIdx_eq_length]
  intro x hx
  obtain ⟨i, hi, rfl⟩ := List.getElem_of_mem hx
  have := h i hi
  have e : L[i] = eat L i := by simp [eat, List.getD, hi]
  rw [e, this]; rfl
theorem efix_low (L : List En) (n : ByteArray) : LowTo L n (efix L n) := fun j hj => by
  have hl : j < L.length := Nat.lt_of_lt_of_le hj (efix_le L n)
  have := List.not_of_lt_findIdx hj
  have e : L[j] = eat L j := by simp [eat, List.getD, hl]
  rw [e] at this
  simpa using this
theorem efix_not {L : List En} {n : ByteArray} (h : efix L n < L.length) : blt (eat L (efix L n)).s n = false := by
  have h' : L.findIdx (fun e => !(blt e.s n)) < L.length := h
  have := List.findIdx_getElem (w := h')
  simp only [eat, List.getD, efix, List.getElem?_eq_getElem h', Option.getD_some]
  simpa using this
theorem ehas_none {L : List En} {n : ByteArray} (h : efix L n = L.length) : ehas L n = false := by unfold ehas; rw [decide_eq_false (by omega)]; rfl
theorem ehas_at {L : List En} {n : ByteArray} (h : efix L n < L.length) : ehas L n = beqS (eat L (efix L n)).s n := by unfold ehas; rw [decide_eq_true h]; rfl
/-- The list with this entry. -/
def eput (L : List En) (e : En) : List En := L.take (efix L e.s) ++ e :: L.drop (efix L e.s + if ehas L e.s then 1 else 0)
theorem eput_has {L : List En} {e : En} (h : ehas L e.s = true) : eput L e = L.set (efix L e.s) e := by
  have hl : efix L e.s < L.length := by
    unfold ehas at h
    rw [Bool.and_eq_true, decide_eq_true_eq] at h
    exact h.1
  unfold eput
  rw [h, List.set_eq_take_append_cons_drop, if_pos hl]
  rfl
theorem eput_not {L : List En} {e : En} (h : ehas L e.s = false) : eput L e = L.take (efix L e.s) ++ e :: L.drop (efix L e.s) := by
  unfold eput
  rw [h]
  rfl
/-- The list without the entry of this name. -/
def ecut (L : List En) (n : ByteArray) : List En := L.filter fun e => !(beqS e.s n)
end Go.Proofs.Ytiedapiepklhlaa
