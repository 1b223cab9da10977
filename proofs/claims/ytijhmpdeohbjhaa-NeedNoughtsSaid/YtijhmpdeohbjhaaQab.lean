/-
  Trees, plainly: nodes by number, numbering anew, what is right; other numbers for the same tree; walks.
-/
import Derived.Test.YtijhmpdeohbjhaaQaa
import Derived.Shelf.Abstract
import Derived.Deep.Onto
set_option linter.unusedVariables false
set_option linter.unusedSimpArgs false
namespace Go.Proofs.Ytijhmpdeohbjhaa
set_option linter.unusedVariables false
set_option linter.unusedSimpArgs false

/-- A node. -/
structure Nd where
  k : Int
  l : Int
  d : List Int
  e : List En
deriving DecidableEq
instance : Inhabited Nd := ⟨⟨0, 0, [], []⟩⟩
/-- The node at a place. -/
def nat (L : List Nd) (i : Nat) : Nd := L.getD i default
theorem nat_get {L : List Nd} {i : Nat} (h : i < L.length) : nat L i = L[i] := by simp [nat, List.getD, h]
theorem nat_out {L : List Nd} {i : Nat} (h : L.length ≤ i) : nat L i = default := by simp [nat, List.getD, h]
theorem nat_map {α : Type} (f : α → Nd) (l : List α) {i : Nat} (h : i < l.length) : nat (l.map f) i = f l[i] := by
  rw [nat_get (by simpa using h), List.getElem_map]
/-- Is it a directory? -/
def isD (x : Nd) : Bool := x.k == 2
/-- The place that an entry tells. -/
def inoN (x : En) : Nat := x.i.toNat
/-- The places that its entries tell. -/
def inos (x : Nd) : List Nat := x.e.map inoN
/-- The places in a tree that a node's entries tell. -/
def chs (L : List Nd) (a : Nat) : List Nat := inos (nat L a)
/-- The entries that tell a place. -/
def up (L : List Nd) (i : Nat) : Nat := ((List.range L.length).map fun a => (chs L a).count i).sum
/-- A node's links by the entries. -/
def lnk (L : List Nd) (i : Nat) : Int := if isD (nat L i) then 2 + ((inos (nat L i)).countP fun j => isD (nat L j) : Nat) else (up L i : Int)
/-- Is it a file as it should be, links aside? -/
def fileOk (x : Nd) : Prop := x.k = 1 ∧ x.e = [] ∧ x.d.length ≤ 46368
/-- Is it a directory as it should be, links aside? -/
def dirOk (n : Nat) (x : Nd) : Prop := x.k = 2 ∧ x.d = [] ∧ x.e.length ≤ 64 ∧ (∀ y ∈ x.e, nmB y.s.data.toList = true ∧ 1 ≤ y.i ∧ y.i < n) ∧ ris x.e = true
/-- A right tree. -/
structure Rgt (L : List Nd) : Prop where
  pos : 1 ≤ L.length
  few : L.length ≤ 56
  root : isD (nat L 0) = true
  node : ∀ i, i < L.length → fileOk (nat L i) ∧ 1 ≤ (nat L i).l ∧ (nat L i).l ≤ 200 ∨ dirOk L.length (nat L i)
  met : met (chs L) = List.range L.length
  link : ∀ i, i < L.length → lnk L i = (nat L i).l
  one : ∀ i, 0 < i → i < L.length → isD (nat L i) = true → up L i = 1
theorem isD_file {x : Nd} (h : fileOk x) : isD x = false := by rw [isD, h.1]; rfl
theorem isD_dir {n : Nat} {x : Nd} (h : dirOk n x) : isD x = true := by rw [isD, h.1]; rfl
theorem node_ino {n : Nat} {x : Nd} (h : fileOk x ∨ dirOk n x) : ∀ k ∈ inos x, 1 ≤ k ∧ k < n := by
  intro k hk
  obtain ⟨y, hy, rfl⟩ := List.mem_map.1 hk
  rcases h with h | h
  · rw [h.2.1] at hy; cases hy
  · have := (h.2.2.2.1 y hy).2
    unfold inoN
    omega
theorem sum_mem {g : Nat → Nat} {l : List Nat} {x : Nat} (h : x ∈ l) : g x ≤ (l.map g).sum := by
  induction l with
  | nil => cases h
  | cons y l ih =>
    rw [List.map_cons, List.sum_cons]
    rcases List.mem_cons.1 h with rfl | h
    · omega
    · have := ih h; omega
end Go.Proofs.Ytijhmpdeohbjhaa

/-
  Slices of nodes: what they hold.
-/
namespace Go.Proofs.Ytijhmpdeohbjhaa
open Go.RowKit
set_option linter.unusedVariables false
set_option linter.unusedSimpArgs false

/-- A node, as a slice of nodes has it. -/
structure Nc where
  k : Int
  l : Int
  da : Option Addr
  dn : Nat
  dc : Nat
  d : List Int
  ea : Option Addr
  en : Nat
  ec : Nat
  e : List En
instance : Inhabited Nc := ⟨⟨0, 0, none, 0, 0, [], none, 0, 0, []⟩⟩
/-- The node that it is. -/
def Nc.nd (x : Nc) : Nd := ⟨x.k, x.l, x.d, x.e⟩
/-- A slice of entries that came in, with its room. -/
structure Enz (w : World) (a : Option Addr) (n c : Nat) (L : List En) : Prop where
  ens : Ens w a n L
  nil : a = none → n = 0 ∧ c = 0
  cap : n ≤ c
  max : c ≤ 9223372036854775807
theorem Enz.below {w w' : World} {a : Option Addr} {n c : Nat} {L : List En} (h : Enz w a n c L) {B : Nat} (hB : w.heap.size ≤ B) (hb : Below B w w') : Enz w' a n c L := ⟨h.ens.below hB hb, h.nil, h.cap, h.max⟩
theorem Enz.zero (w : World) : Enz w none 0 0 [] := ⟨ens_nil _ _, fun _ => ⟨rfl, rfl⟩, Nat.le_refl _, by omega⟩
/-- The slice at a, of n nodes. -/
structure Nds (w : World) (a : Option Addr) (n : Nat) (f : Nat → Nc) : Prop where
  place : n = 0 ∨ ∃ b off, a = some ⟨b, off, none⟩ ∧ b < w.heap.size ∧ ∀ i, i < n → w.cell? ⟨b, off + i * 4, none⟩ = some (.int .i64 (f i).k) ∧ w.cell? ⟨b, off + i * 4 + 1, none⟩ = some (.int .i64 (f i).l) ∧
    w.cell? ⟨b, off + i * 4 + 2, none⟩ = some (.slice (f i).da (f i).dn (f i).dc) ∧ w.cell? ⟨b, off + i * 4 + 3, none⟩ = some (.slice (f i).ea (f i).en (f i).ec)
  data : ∀ i, i < n → Pin w (f i).da (f i).dn (f i).dc (f i).d
  ents : ∀ i, i < n → Enz w (f i).ea (f i).en (f i).ec (f i).e
theorem Nds.below {w w' : World} {a : Option Addr} {n : Nat} {f : Nat → Nc} (h : Nds w a n f) {B : Nat} (hB : w.heap.size ≤ B) (hb : Below B w w') : Nds w' a n f := by
  refine ⟨?_, fun i hi => (h.data i hi).below hB hb, fun i hi => (h.ents i hi).below hB hb⟩
  rcases h.place with h0 | ⟨b, off, ha, hlt, hc⟩
  · exact .inl h0
  · refine .inr ⟨b, off, ha, Nat.lt_of_lt_of_le hlt hb.size, fun i hi => ?_⟩
    obtain ⟨c0, c1, c2, c3⟩ := hc i hi
    exact ⟨(hb.cell (p := ⟨b, off + i * 4, none⟩) (by show b < B; omega)).trans c0, (hb.cell (p := ⟨b, off + i * 4 + 1, none⟩) (by show b < B; omega)).trans c1,
      (hb.cell (p := ⟨b, off + i * 4 + 2, none⟩) (by show b < B; omega)).trans c2, (hb.cell (p := ⟨b, off + i * 4 + 3, none⟩) (by show b < B; omega)).trans c3⟩
theorem Nds.next {w w' : World} {a : Option Addr} {n : Nat} {f : Nat → Nc} (h : Nds w a n f) (hb : Below w.heap.size w w') : Nds w' a n f := h.below (Nat.le_refl _) hb
theorem Nds.at {w : World} {a : Option Addr} {n : Nat} {f : Nat → Nc} (h : Nds w a n f) {i : Nat} (hi : i < n) :
    ∃ b off, a = some ⟨b, off, none⟩ ∧ b < w.heap.size ∧ w.cell? ⟨b, off + i * 4, none⟩ = some (.int .i64 (f i).k) ∧ w.cell? ⟨b, off + i * 4 + 1, none⟩ = some (.int .i64 (f i).l) ∧
      w.cell? ⟨b, off + i * 4 + 2, none⟩ = some (.slice (f i).da (f i).dn (f i).dc) ∧ w.cell? ⟨b, off + i * 4 + 3, none⟩ = some (.slice (f i).ea (f i).en (f i).ec) := by
  rcases h.place with h0 | ⟨b, off, ha, hlt, hc⟩
  · omega
  · obtain ⟨c0, c1, c2, c3⟩ := hc i hi
    exact ⟨b, off, ha, hlt, c0, c1, c2, c3⟩
/-- The tree that a slice of nodes is. -/
def ndL (f : Nat → Nc) (n : Nat) : List Nd := (List.range n).map fun i => (f i).nd
theorem ndL_len (f : Nat → Nc) (n : Nat) : (ndL f n).length = n := by simp [ndL]
theorem nat_ndL {f : Nat → Nc} {n i : Nat} (h : i < n) : nat (ndL f n) i = (f i).nd := by
  rw [ndL, nat_map _ _ (by simpa using h), List.getElem_range]
end Go.Proofs.Ytijhmpdeohbjhaa

/-
  Name, of the program and of the document, by contract.
-/
namespace Go.Proofs.Ytijhmpdeohbjhaa
open Go.RowKit
set_option linter.unusedVariables false
set_option linter.unusedSimpArgs false

/-- The byte at a place, as a number. -/
def bat (l : List UInt8) (i : Nat) : Int := ((l.getD i 0).toNat : Int)
theorem bat_ok (l : List UInt8) (i : Nat) : okB (l.getD i 0) = !(bat l i == 0 || bat l i == 47) := by
  unfold bat okB
  generalize l.getD i 0 = b
  have h0 : (b == 0) = ((b.toNat : Int) == 0) := by
    rw [Bool.eq_iff_iff, beq_iff_eq, beq_iff_eq]
    constructor
    · intro h; subst h; rfl
    · intro e
      exact UInt8.toNat_inj.1 (by rw [show (0 : UInt8).toNat = 0 from rfl]; omega)
  have h1 : (b == 47) = ((b.toNat : Int) == 47) := by
    rw [Bool.eq_iff_iff, beq_iff_eq, beq_iff_eq]
    constructor
    · intro h; subst h; rfl
    · intro e
      exact UInt8.toNat_inj.1 (by rw [show (47 : UInt8).toNat = 47 from rfl]; omega)
  rw [h0, h1]
  cases ((b.toNat : Int) == 0) <;> cases ((b.toNat : Int) == 47) <;> rfl

set_option maxHeartbeats 1000000 in
theorem bad_any (x : Int) (w : World) : Calls Try.prog 53 #[.int .u8 x] w fun e w' => e = .returned (.bool (x == 0 || x == 47)) ∧ w' = w := by
  go_enter Try.func53, Try.ntmps53
  go_wp2
  all_goals go_ret
  all_goals refine ⟨?_, rfl⟩
  · simp [*]
  · rfl
/-- The bytes ahead of place k are those of a name. -/
def OkTo (l : List UInt8) (k : Nat) : Prop := ∀ j, j < k → okB (l.getD j 0) = true
theorem OkTo.zero (l : List UInt8) : OkTo l 0 := fun j h => by omega
theorem OkTo.succ {l : List UInt8} {k : Nat} (h : OkTo l k) (e : okB (l.getD k 0) = true) : OkTo l (k + 1) := fun j hj => by
  by_cases hk : j = k
  · rw [hk]; exact e
  · exact h j (by omega)
theorem OkTo.all {l : List UInt8} (h : OkTo l l.length) : l.all okB = true := by
  rw [List.all_eq_true]
  intro x hx
  obtain ⟨i, hi, rfl⟩ := List.getElem_of_mem hx
  have := h i hi
  simpa [List.getD, hi] using this
theorem not_all {l : List UInt8} {k : Nat} (hk : k < l.length) (e : okB (l.getD k 0) = false) : l.all okB = false := by
  rw [List.all_eq_false]
  refine ⟨l.getD k 0, by simp [List.getD, hk], by rw [e]; decide⟩
def IxI (w0 : World) (l : List UInt8) (v8 : Value) (w : World) : Prop := ∃ k : Nat, k ≤ l.length ∧ v8 = .int .i64 k ∧ w = w0 ∧ OkTo l k
set_option maxHeartbeats 1000000 in
theorem indexB_any (w : World) (b n c : Nat) (l : List UInt8) (hl : l.length = n) (hn : n ≤ 1000000) (hc : ∀ i, i < n → w.cell? ⟨b, i, none⟩ = some (.int .u8 (bat l i))) :
    Calls Try.prog 54 #[.slice (some ⟨b, 0, none⟩) n c, .func (.func 53) #[] #[]] w fun e w' => ∃ r : Int, e = .returned (.int .i64 r) ∧ decide (0 ≤ r) = !(l.all okB) ∧ w' = w := by
  subst hl
  go_enter Try.func54, Try.ntmps54
  go_wp2_with (fail)
  go_loopw [5, 8] (fun _ v wr => IxI w l v wr) (fun _ v _ => l.length - (RowKit.intOf v).toNat)
  case atStart => exact ⟨0, by omega, rfl, rfl, OkTo.zero _⟩
  case round =>
    obtain ⟨k, hk, rfl, rfl, hI⟩ := hrel
    have HI := Lib.hid hI
    clear hI
    by_cases hlt : k < l.length
    · have k1 : (k : Int) < (l.length : Int) := by omega
      have k0 : (0 : Int) ≤ (k : Int) := by omega
      have x1 := hc k hlt
      clear hc
      cases hb : okB (l.getD k 0) with
      | true =>
        have hbb := bat_ok l k
        rw [hb] at hbb
        have hbf : (bat l k == 0 || bat l k == 47) = false := by simpa using hbb.symm
        have hcall := bad_any (bat l k) wr
        rw [hbf] at hcall
        clear hbb hbf
        go_wp2_with (fail)
        refine hcall.mono ?_
        rintro e w' ⟨rfl, rfl⟩
        go_wp2_with (fail)
        go_roundw
        case rel => exact ⟨k + 1, by omega, by go_num, rfl, HI.out.succ hb⟩
        case measure => simp [RowKit.intOf]; omega
      | false =>
        have hbb := bat_ok l k
        rw [hb] at hbb
        have hbf : (bat l k == 0 || bat l k == 47) = true := by
          cases h : (bat l k == 0 || bat l k == 47) with
          | true => rfl
          | false => rw [h] at hbb; cases hbb
        have hcall := bad_any (bat l k) wr
        rw [hbf] at hcall
        clear hbb hbf
        go_wp2_with (fail)
        refine hcall.mono ?_
        rintro e w' ⟨rfl, rfl⟩
        go_wp2_with (fail)
        go_ret
        exact ⟨k, rfl, by rw [not_all hlt hb]; simp, rfl⟩
    · obtain rfl : k = l.length := by omega
      clear hc
      go_wp2_with (fail)
      go_ret
      exact ⟨-1, rfl, by rw [HI.out.all]; rfl, rfl⟩
set_option maxHeartbeats 1000000 in
theorem containsB_any (w : World) (b n c : Nat) (l : List UInt8) (hl : l.length = n) (hn : n ≤ 1000000) (hc : ∀ i, i < n → w.cell? ⟨b, i, none⟩ = some (.int .u8 (bat l i))) :
    Calls Try.prog 52 #[.slice (some ⟨b, 0, none⟩) n c, .func (.func 53) #[] #[]] w fun e w' => e = .returned (.bool (!(l.all okB))) ∧ w' = w := by
  have hi := indexB_any w b n c l hl hn hc
  clear hc
  go_enter Try.func52, Try.ntmps52
  go_wp2_with (fail)
  refine hi.mono ?_
  rintro e w' ⟨r, rfl, hr, rfl⟩
  go_wp2_with (fail)
  go_ret
  exact ⟨by rw [← hr]; rfl, rfl⟩
theorem nmB_short {l : List UInt8} (h : l.length < 1) : nmB l = false := by unfold nmB; rw [decide_eq_false (by omega : ¬ 1 ≤ l.length)]; rfl
theorem nmB_long {l : List UInt8} (h : 12 < l.length) : nmB l = false := by unfold nmB; rw [decide_eq_false (by omega : ¬ l.length ≤ 12), Bool.and_false]; rfl
theorem nmB_all {l : List UInt8} (h1 : 1 ≤ l.length) (h2 : l.length ≤ 12) (h3 : l ≠ [46]) (h4 : l ≠ [46, 46]) : nmB l = l.all okB := by
  unfold nmB
  rw [decide_eq_true h1, decide_eq_true h2, beq_eq_false_iff_ne.2 h3, beq_eq_false_iff_ne.2 h4]
  simp
theorem bytes_cell (w : World) (s : ByteArray) : ∀ i, i < s.data.toList.length → (Lib.bytesWorld w 5 s).cell? ⟨w.heap.size, i, none⟩ = some (.int .u8 (bat s.data.toList i)) := fun i hi =>
  Lib.bytesWorld_cell w 5 s i (by rw [Lib.size_eq]; exact hi)
theorem bytes_below (w : World) (s : ByteArray) : Below w.heap.size w (Lib.bytesWorld w 5 s) :=
  ⟨rfl, rfl, rfl, by rw [Lib.bytesWorld_size]; omega, fun k hk => Lib.bytesWorld_at_old w 5 s k hk⟩
set_option maxHeartbeats 1000000 in
theorem name_any (s : ByteArray) (w : World) : Calls Try.prog 51 #[.string s] w fun e w' => e = .returned (.bool (nmB s.data.toList)) ∧ Below w.heap.size w w' := by
  by_cases h1 : s.size < 1
  · have k1 : (s.size : Int) < 1 := by omega
    go_enter Try.func51, Try.ntmps51
    go_wp2_with (fail)
    go_ret
    exact ⟨by rw [nmB_short (by rw [← Lib.size_eq]; omega)]; rfl, Below.refl _ _⟩
  have k1 : ¬ (s.size : Int) < 1 := by omega
  by_cases h2 : 12 < s.size
  · have k2 : (12 : Int) < (s.size : Int) := by omega
    go_enter Try.func51, Try.ntmps51
    go_wp2_with (fail)
    go_ret
    exact ⟨by rw [nmB_long (by rw [← Lib.size_eq]; omega)]; rfl, Below.refl _ _⟩
  have k2 : ¬ (12 : Int) < (s.size : Int) := by omega
  by_cases h3 : s = ⟨#[46]⟩
  · subst h3
    clear k1 k2 h1 h2
    go_enter Try.func51, Try.ntmps51
    go_wp2_with (fail)
    go_ret
    exact ⟨rfl, Below.refl _ _⟩
  by_cases h4 : s = ⟨#[46, 46]⟩
  · subst h4
    clear k1 k2 h1 h2 h3
    go_enter Try.func51, Try.ntmps51
    go_wp2_with (fail)
    go_ret
    exact ⟨rfl, Below.refl _ _⟩
  have n3 : s.data.toList ≠ [46] := fun e => h3 (by rw [← tx_data s, e]; rfl)
  have n4 : s.data.toList ≠ [46, 46] := fun e => h4 (by rw [← tx_data s, e]; rfl)
  have m3 : (s.toList == [46]) = false := by rw [Lib.toList_data]; exact beq_eq_false_iff_ne.2 n3
  have m4 : (s.toList == [46, 46]) = false := by rw [Lib.toList_data]; exact beq_eq_false_iff_ne.2 n4
  have hnm := Lib.hid (nmB_all (l := s.data.toList) (by rw [← Lib.size_eq]; omega) (by rw [← Lib.size_eq]; omega) n3 n4)
  have hcv := Lib.run_convert_string_bytes (P := Try.prog) w 9 22 5 s Try.underlying9 Try.underlying22 Try.underlying5
  have hct := containsB_any (Lib.bytesWorld w 5 s) w.heap.size s.size (grownCap w s.size 0 5) s.data.toList (Lib.size_eq s).symm (by omega) (fun i hi => bytes_cell w s i (by rw [← Lib.size_eq]; exact hi))
  have HB := Lib.hid (bytes_below w s)
  clear h1 h2 h3 h4 n3 n4
  go_enter Try.func51, Try.ntmps51
  go_wp2_with (fail)
  refine hct.mono ?_
  rintro e w' ⟨rfl, rfl⟩
  go_wp2_with (fail)
  go_ret
  exact ⟨by rw [hnm.out]; simp, HB.out⟩
end Go.Proofs.Ytijhmpdeohbjhaa

/-
  The program's tests of entries: isWrong; slices.IndexFunc, slices.ContainsFunc and slices.DeleteFunc's closures, by contract.
-/
namespace Go.Proofs.Ytijhmpdeohbjhaa
open Go.RowKit
set_option linter.unusedVariables false
set_option linter.unusedSimpArgs false

set_option maxHeartbeats 1000000 in
theorem wrong_any (x : En) (w : World) : Calls Try.prog 48 #[env x] w fun e w' => e = .returned (.bool (!okE x)) ∧ Below w.heap.size w w' := by
  obtain ⟨s, i⟩ := x
  have hn := name_any s (w.alloc (.cells #[.string s, .int .i64 i] 74 (0, 0)))
  have hb0 : Below w.heap.size w (w.alloc (.cells #[.string s, .int .i64 i] 74 (0, 0))) := (Below.refl _ _).alloc (Nat.le_refl _) _
  have c1 : (w.alloc (.cells #[.string s, .int .i64 i] 74 (0, 0))).cell? ⟨w.heap.size, 1, none⟩ = some (.int .i64 i) := by simp
  have HB := Lib.hid hb0
  have C1 := Lib.hid c1
  have hok : okE ⟨s, i⟩ = (nmB s.data.toList && decide (1 ≤ i) && decide (i ≤ 56)) := rfl
  have HOK := Lib.hid hok
  clear hb0 c1 hok
  unfold env
  simp only
  cases hm : nmB s.data.toList with
  | false =>
    rw [hm] at hn
    go_enter Try.func48, Try.ntmps48
    go_wp2_with (fail)
    refine hn.mono ?_
    rintro e w2 ⟨rfl, hb2⟩
    have HB2 := Lib.hid (HB.out.trans (hb2.mono HB.out.size))
    clear hb2 hn
    go_wp2_with (fail)
    go_ret
    exact ⟨by rw [HOK.out, hm]; rfl, HB2.out⟩
  | true =>
    rw [hm] at hn
    by_cases h1 : i < 1
    · go_enter Try.func48, Try.ntmps48
      go_wp2_with (fail)
      refine hn.mono ?_
      rintro e w2 ⟨rfl, hb2⟩
      have HB2 := Lib.hid (HB.out.trans (hb2.mono HB.out.size))
      have c1 := (hb2.cell (p := ⟨w.heap.size, 1, none⟩) (by simp)).trans C1.out
      clear hb2 hn
      go_wp2_with (fail)
      go_ret
      exact ⟨by rw [HOK.out, hm, decide_eq_false (by omega : ¬ 1 ≤ i)]; rfl, HB2.out⟩
    · by_cases h2 : 56 < i
      · go_enter Try.func48, Try.ntmps48
        go_wp2_with (fail)
        refine hn.mono ?_
        rintro e w2 ⟨rfl, hb2⟩
        have HB2 := Lib.hid (HB.out.trans (hb2.mono HB.out.size))
        have c1 := (hb2.cell (p := ⟨w.heap.size, 1, none⟩) (by simp)).trans C1.out
        clear hb2 hn
        go_wp2_with (fail)
        go_ret
        exact ⟨by rw [HOK.out, hm, decide_eq_false (by omega : ¬ i ≤ 56), Bool.and_false]; rfl, HB2.out⟩
      · go_enter Try.func48, Try.ntmps48
        go_wp2_with (fail)
        refine hn.mono ?_
        rintro e w2 ⟨rfl, hb2⟩
        have HB2 := Lib.hid (HB.out.trans (hb2.mono HB.out.size))
        have c1 := (hb2.cell (p := ⟨w.heap.size, 1, none⟩) (by simp)).trans C1.out
        clear hb2 hn
        go_wp2_with (fail)
        go_ret
        exact ⟨by rw [HOK.out, hm, decide_eq_true (by omega : 1 ≤ i), decide_eq_true (by omega : i ≤ 56)]; simp [h1, h2], HB2.out⟩

/-- What a closure answers: p, wherever all that lay in w0 lies still; it makes memory at most. -/
def Gives (g : FuncId) (lb : Array Value) (p : En → Bool) (w0 : World) : Prop :=
  ∀ (x : En) (w : World), Below w0.heap.size w0 w → Calls Try.prog g (#[env x] ++ lb) w fun e w' => e = .returned (.bool (p x)) ∧ Below w.heap.size w w'
/-- The first k entries don't meet p. -/
def NoTo (p : En → Bool) (L : List En) (k : Nat) : Prop := ∀ j, j < k → p (eat L j) = false
theorem NoTo.zero (p : En → Bool) (L : List En) : NoTo p L 0 := fun j h => by omega
theorem NoTo.succ {p : En → Bool} {L : List En} {k : Nat} (h : NoTo p L k) (e : p (eat L k) = false) : NoTo p L (k + 1) := fun j hj => by
  by_cases hk : j = k
  · rw [hk]; exact e
  · exact h j (by omega)
/-- IndexFunc's answer. -/
def IxO (p : En → Bool) (L : List En) (r : Int) : Prop := (r = -1 ∧ NoTo p L L.length) ∨ ∃ k : Nat, k < L.length ∧ r = (k : Int) ∧ NoTo p L k ∧ p (eat L k) = true
set_option maxHeartbeats 1000000 in
theorem index_any (g : FuncId) (lb : Array Value) (eg : ∀ args w, (callFunc g args).run Try.prog w = .ok (.enter g args) w) (p : En → Bool) (w : World) (hg : Gives g lb p w) (a : Option Addr) (n c : Nat) (L : List En) (h : Ens w a n L) (hn : n ≤ 1000000000000) :
    Calls Try.prog 47 #[.slice a n c, .func (.func g) #[] lb] w fun e w' => ∃ r : Int, e = .returned (.int .i64 r) ∧ IxO p L r ∧ Below w.heap.size w w' := by
  have hl := h.len
  subst hl
  go_enter Try.func47, Try.ntmps47
  go_wp2_with (fail)
  go_loopw [5, 8] (fun _ v wr => ∃ k : Nat, k ≤ L.length ∧ v = .int .i64 k ∧ Below w.heap.size w wr ∧ NoTo p L k) (fun _ v _ => L.length - (RowKit.intOf v).toNat)
  case atStart => exact ⟨0, by omega, rfl, Below.refl _ _, NoTo.zero _ _⟩
  case round =>
    obtain ⟨k, hk, rfl, hB, hI⟩ := hrel
    have HI := Lib.hid hI
    have HB := Lib.hid hB
    by_cases hlt : k < L.length
    · have k1 : (k : Int) < (L.length : Int) := by omega
      have k0 : (0 : Int) ≤ (k : Int) := by omega
      obtain ⟨b, off, rfl, hbl, hc1, hc2⟩ := h.at hlt
      have x1 := (hB.cell (p := ⟨b, off + k * 2, none⟩) hbl).trans hc1
      have x2 := (hB.cell (p := ⟨b, off + k * 2 + 1, none⟩) hbl).trans hc2
      have hcall := hg (eat L k) wr hB
      unfold env at hcall
      clear hc1 hc2 h hB hI hg
      cases hb : p (eat L k) with
      | false =>
        rw [hb] at hcall
        go_wp2_with (go_at_fn g; refine hcall.mono ?_; rintro e w' ⟨rfl, hb'⟩)
        have HB2 := Lib.hid (HB.out.trans (hb'.mono HB.out.size))
        clear hb' hcall
        go_roundw
        case rel => exact ⟨k + 1, by omega, by go_num, HB2.out, HI.out.succ hb⟩
        case measure => simp [RowKit.intOf]; omega
      | true =>
        rw [hb] at hcall
        go_wp2_with (go_at_fn g; refine hcall.mono ?_; rintro e w' ⟨rfl, hb'⟩)
        have HB2 := Lib.hid (HB.out.trans (hb'.mono HB.out.size))
        clear hb' hcall
        go_ret
        exact ⟨k, rfl, .inr ⟨k, hlt, rfl, HI.out, hb⟩, HB2.out⟩
    · obtain rfl : k = L.length := by omega
      clear h hB hI hg
      go_wp2_with (fail)
      go_ret
      exact ⟨-1, rfl, .inl ⟨rfl, HI.out⟩, HB.out⟩
theorem IxO.any {p : En → Bool} {L : List En} {r : Int} (h : IxO p L r) : decide (0 ≤ r) = L.any p := by
  rcases h with ⟨rfl, h⟩ | ⟨k, hk, rfl, _, e⟩
  · symm
    rw [show decide ((0 : Int) ≤ -1) = false from rfl, List.any_eq_false]
    intro x hx
    obtain ⟨i, hi, rfl⟩ := List.getElem_of_mem hx
    have := h i hi
    have e : L[i] = eat L i := by simp [eat, List.getD, hi]
    rw [e, this]; decide
  · symm
    rw [decide_eq_true (by omega), List.any_eq_true]
    exact ⟨eat L k, eat_mem hk, e⟩
set_option maxHeartbeats 1000000 in
theorem contains_any (g : FuncId) (lb : Array Value) (eg : ∀ args w, (callFunc g args).run Try.prog w = .ok (.enter g args) w) (p : En → Bool) (w : World) (hg : Gives g lb p w) (a : Option Addr) (n c : Nat) (L : List En) (h : Ens w a n L) (hn : n ≤ 1000000000000) :
    Calls Try.prog 42 #[.slice a n c, .func (.func g) #[] lb] w fun e w' => e = .returned (.bool (L.any p)) ∧ Below w.heap.size w w' := by
  have hi := index_any g lb eg p w hg a n c L h hn
  clear hg h
  go_enter Try.func42, Try.ntmps42
  go_wp2_with (fail)
  refine hi.mono ?_
  rintro e w' ⟨r, rfl, hr, hb⟩
  have hr' := hr.any
  have HB := Lib.hid hb
  clear hr hb hi
  go_wp2_with (fail)
  go_ret
  exact ⟨by rw [← hr']; rfl, HB.out⟩
end Go.Proofs.Ytijhmpdeohbjhaa

/-
  Which entries are right: the program's test, the document's, the statements' of rising names; by contract.
-/
namespace Go.Proofs.Ytijhmpdeohbjhaa
open Go.RowKit
set_option linter.unusedVariables false
set_option linter.unusedSimpArgs false

theorem enters_wrong (args : Array Value) (w : World) : (callFunc 48 args).run Try.prog w = .ok (.enter 48 args) w := enters_of (P := Try.prog) Try.func48 (by kernel_rfl) rfl args w
theorem gives_wrong (w : World) : Gives 48 #[] (fun x => !okE x) w := fun x w' _ => wrong_any x w'
theorem any_wrong (L : List En) : (L.any fun x => !okE x) = !(L.all okE) := by
  induction L with
  | nil => rfl
  | cons x L ih => rw [List.any_cons, List.all_cons, ih, Bool.not_and]
set_option maxHeartbeats 2000000 in
theorem areRight_any (a : Option Addr) (n c : Nat) (L : List En) (w : World) (h : Ens w a n L) (hn : n ≤ 1000000000000) :
    Calls Try.prog 44 #[.slice a n c] w fun e w' => e = .returned (.bool (rgt L)) ∧ Below w.heap.size w w' := by
  have hl := h.len
  subst hl
  by_cases h64 : 64 < L.length
  · have k1 : (64 : Int) < (L.length : Int) := by omega
    have hr := Lib.hid (rgt_long h64)
    clear h h64
    go_enter Try.func44, Try.ntmps44
    go_wp2_with (fail)
    go_ret
    exact ⟨by rw [hr.out]; rfl, Below.refl _ _⟩
  have k1 : ¬ (64 : Int) < (L.length : Int) := by omega
  have hct := contains_any _ #[] enters_wrong _ w (gives_wrong w) a L.length c L h hn
  rw [any_wrong] at hct
  have HH := Lib.hid h
  clear h
  cases hw : L.all okE with
  | false =>
    rw [hw] at hct
    have hr := Lib.hid (rgt_bad hw)
    go_enter Try.func44, Try.ntmps44
    go_wp2_with (fail)
    refine hct.mono ?_
    rintro e w' ⟨rfl, hb⟩
    have HB := Lib.hid hb
    clear hct hb
    go_wp2_with (fail)
    go_ret
    exact ⟨by rw [hr.out]; rfl, HB.out⟩
  | true =>
    rw [hw] at hct
    have H64 := Lib.hid h64
    have HW := Lib.hid hw
    clear h64 hw
    go_enter Try.func44, Try.ntmps44
    go_wp2_with (fail)
    refine hct.mono ?_
    rintro e w1 ⟨rfl, hb⟩
    have HB := Lib.hid hb
    have HH1 := Lib.hid (HH.out.next hb)
    clear hct hb
    go_wp2_with (fail)
    go_loopw [3] (fun v wr => ∃ k q : Nat, 1 ≤ k ∧ (k ≤ L.length ∨ k = 1) ∧ v = .int .i64 k ∧ wr = w1.drewN q ∧ RisTo L k) (fun v _ => L.length - (RowKit.intOf v).toNat)
    case atStart => exact ⟨1, 0, by omega, by omega, rfl, rfl, RisTo.one _⟩
    case round =>
      obtain ⟨k, q, hk1, hk, rfl, rfl, hI⟩ := hrel
      have HI := Lib.hid hI
      clear hI
      by_cases hlt : k < L.length
      · have k2 : (k : Int) < (L.length : Int) := by omega
        have k0 : (0 : Int) ≤ (k : Int) := by omega
        obtain ⟨m, rfl⟩ : ∃ m, k = m + 1 := ⟨k - 1, by omega⟩
        have hw1 : IntKind.i64.wrap (((m + 1 : Nat) : Int) - 1) = (m : Int) := by rw [show ((m + 1 : Nat) : Int) - 1 = (m : Int) by omega]; exact IntWalk.i64_in _ (by omega)
        obtain ⟨b, off, rfl, hbl, hc1, hc2⟩ := HH1.out.at (i := m) (by omega)
        obtain ⟨b', off', e', hbl', hd1, hd2⟩ := HH1.out.at (i := m + 1) (by omega)
        cases e'
        have k3 : (m : Int) < (L.length : Int) := by omega
        have k4 : (0 : Int) ≤ (m : Int) := by omega
        clear hc2 hd2 hbl hbl'
        cases hbt : Op.bytesLess (eat L m).s.toList (eat L (m + 1)).s.toList with
        | true =>
          have hbt' : blt (eat L m).s (eat L (m + 1)).s = true := hbt
          have HBT := Lib.hid hbt'
          clear hbt'
          go_wp2_with (fail)
          go_quiet (fail)
          go_wp2_with (fail)
          go_roundw
          case rel => exact ⟨m + 1 + 1, q + nq, by omega, by omega, by go_num, rfl, HI.out.succ (fun j hj => (show j = m from Nat.succ.inj hj) ▸ HBT.out)⟩
          case measure => simp [RowKit.intOf]; omega
        | false =>
          have hr := Lib.hid (rgt_fall (not_ris hlt hbt))
          go_wp2_with (fail)
          go_quiet (fail)
          go_wp2_with (fail)
          go_ret
          exact ⟨by rw [hr.out]; rfl, below_drewN (below_drewN HB.out _) _⟩
      · have k2 : ¬ (k : Int) < (L.length : Int) := by omega
        have hr : rgt L = true := rgt_yes (by have := H64.out; omega) HW.out (RisTo.ris (by
          intro j hj
          exact HI.out j (by omega)))
        have HR := Lib.hid hr
        clear hr
        go_wp2_with (fail)
        go_ret
        exact ⟨by rw [HR.out]; rfl, below_drewN HB.out _⟩
end Go.Proofs.Ytijhmpdeohbjhaa

/-
  Copies of entries, their comparison, their weight; by contract.
-/
namespace Go.Proofs.Ytijhmpdeohbjhaa
open Go.RowKit
set_option linter.unusedVariables false
set_option linter.unusedSimpArgs false

theorem take_snoc {L : List En} {k : Nat} (h : k < L.length) : L.take k ++ [eat L k] = L.take (k + 1) := by
  rw [List.take_add_one, eat_get h]; rfl
end Go.Proofs.Ytijhmpdeohbjhaa

/-
  Trees, plainly: an entry found, put and cut; what of that leaves a tree right; walks, and what other numbers make of them.
-/
namespace Go.Proofs.Ytijhmpdeohbjhaa
set_option linter.unusedVariables false
set_option linter.unusedSimpArgs false

/-- The place that a name's entry tells. -/
def fnd (E : List En) (s : ByteArray) : Option Nat := if ehas E s then some (inoN (eat E (efix E s))) else none
end Go.Proofs.Ytijhmpdeohbjhaa

/-
  Trees, plainly: walks along names, what other numbers and other entries make of them; a directory has one path.
-/
namespace Go.Proofs.Ytijhmpdeohbjhaa
set_option linter.unusedVariables false
set_option linter.unusedSimpArgs false

/-- The place of names from a node on, or what is told. -/
def wlk (L : List Nd) : Nat → List ByteArray → Except Int Nat
  | a, [] => .ok a
  | a, n :: ns => if isD (nat L a) then (match fnd (nat L a).e n with | some k => wlk L k ns | none => .error 21) else .error 22
end Go.Proofs.Ytijhmpdeohbjhaa

/-
  Trees, plainly: what each operation answers and makes of a right tree, its nodes not yet numbered anew; that it is right when they are.
-/
namespace Go.Proofs.Ytijhmpdeohbjhaa
set_option linter.unusedVariables false
set_option linter.unusedSimpArgs false

/-- What is in a file, or what is told of it. -/
def fileAt (L : List Nd) : Option (List ByteArray) → Except Int Nat
  | none => .error 20
  | some ns =>
    match wlk L 0 ns with
    | .error e => .error e
    | .ok k => if isD (nat L k) then .error 23 else .ok k
end Go.Proofs.Ytijhmpdeohbjhaa

/-
  Trees, plainly: Right as it is looked for, node by node; with other numbers told by a counter.
-/
namespace Go.Proofs.Ytijhmpdeohbjhaa
set_option linter.unusedVariables false
set_option linter.unusedSimpArgs false

/-- May it be an entry among n nodes? -/
def entB (n : Nat) (y : En) : Bool := nmB y.s.data.toList && decide (1 ≤ y.i) && decide (y.i < (n : Int))
/-- Is a node right by itself? -/
def nodeB (n : Nat) (x : Nd) : Bool :=
  if x.k = 1 then decide (x.e.length = 0) && decide (x.d.length ≤ 46368) && decide (1 ≤ x.l) && decide (x.l ≤ 200)
  else decide (x.k = 2) && decide (x.d.length = 0) && decide (x.e.length ≤ 64) && x.e.all (entB n) && ris x.e
theorem nodeB_iff {n : Nat} {x : Nd} : nodeB n x = true ↔ fileOk x ∧ 1 ≤ x.l ∧ x.l ≤ 200 ∨ dirOk n x := by
  unfold nodeB
  split
  · rename_i h
    simp only [Bool.and_eq_true, decide_eq_true_eq]
    constructor
    · rintro ⟨⟨⟨a, b⟩, c⟩, d⟩
      exact .inl ⟨⟨h, List.length_eq_zero_iff.1 a, b⟩, c, d⟩
    · rintro (⟨⟨_, a, b⟩, c, d⟩ | h')
      · exact ⟨⟨⟨by rw [a]; rfl, b⟩, c⟩, d⟩
      · have := h'.1
        omega
  · rename_i h
    simp only [Bool.and_eq_true, decide_eq_true_eq, List.all_eq_true, entB]
    constructor
    · rintro ⟨⟨⟨⟨a, b⟩, c⟩, d⟩, e⟩
      exact .inr ⟨a, List.length_eq_zero_iff.1 b, c, fun y hy => ⟨(d y hy).1.1, (d y hy).1.2, (d y hy).2⟩, e⟩
    · rintro (h' | h')
      · exact absurd h'.1.1 h
      · exact ⟨⟨⟨⟨h'.1, by rw [h'.2.1]; rfl⟩, h'.2.2.1⟩, fun y hy => ⟨⟨(h'.2.2.2.1 y hy).1, (h'.2.2.2.1 y hy).2.1⟩, (h'.2.2.2.1 y hy).2.2⟩⟩, h'.2.2.2.2⟩
/-- Is it right, as it is looked for? -/
def rightB (L : List Nd) : Bool :=
  decide (1 ≤ L.length) && decide (L.length ≤ 56) && isD (nat L 0) && L.all (nodeB L.length) && decide ((met (chs L)).length = L.length) &&
    (List.range L.length).all fun i => decide ((met (chs L)).getD i 0 = i) && decide (lnk L i = (nat L i).l) && (!(isD (nat L i)) || i == 0 || decide (up L i = 1))
theorem all_nat {L : List Nd} {p : Nd → Bool} : L.all p = true ↔ ∀ i, i < L.length → p (nat L i) = true := by
  rw [List.all_eq_true]
  constructor
  · intro h i hi
    rw [nat_get hi]
    exact h _ (List.getElem_mem hi)
  · intro h x hx
    obtain ⟨i, hi, rfl⟩ := List.getElem_of_mem hx
    rw [← nat_get hi]
    exact h i hi
theorem rightB_iff {L : List Nd} : rightB L = true ↔ Rgt L := by
  unfold rightB
  simp only [Bool.and_eq_true, decide_eq_true_eq, List.all_eq_true (l := List.range L.length), List.mem_range, all_nat, Bool.or_eq_true, Bool.not_eq_true', beq_iff_eq]
  constructor
  · rintro ⟨⟨⟨⟨⟨h1, h2⟩, h3⟩, h4⟩, h5⟩, h6⟩
    refine ⟨h1, h2, h3, fun i hi => nodeB_iff.1 (h4 i hi), ?_, fun i hi => (h6 i hi).1.2, fun i h0 hi hd => ?_⟩
    · refine List.ext_getElem (by rw [h5, List.length_range]) (fun i a b => ?_)
      have := (h6 i (by omega)).1.1
      rw [List.getElem_range]
      rw [List.getD_eq_getElem?_getD, List.getElem?_eq_getElem a] at this
      exact this
    · rcases (h6 i hi).2 with (h | h) | h
      · rw [hd] at h; cases h
      · omega
      · exact h
  · intro h
    refine ⟨⟨⟨⟨⟨h.pos, h.few⟩, h.root⟩, fun i hi => nodeB_iff.2 (h.node i hi)⟩, by rw [h.met, List.length_range]⟩, fun i hi => ⟨⟨?_, h.link i hi⟩, ?_⟩⟩
    · rw [h.met, List.getD_eq_getElem?_getD, List.getElem?_eq_getElem (by simpa using hi), List.getElem_range]; rfl
    · by_cases h0 : i = 0
      · exact .inl (.inr h0)
      · cases hd : isD (nat L i) with
        | false => exact .inl (.inl rfl)
        | true => exact .inr (h.one i (by omega) hi hd)
instance (L : List Nd) : Decidable (Rgt L) := decidable_of_iff _ rightB_iff

end Go.Proofs.Ytijhmpdeohbjhaa

/-
  How entries are counted while nodes are met, plainly.
-/
namespace Go.Proofs.Ytijhmpdeohbjhaa
set_option linter.unusedVariables false
set_option linter.unusedSimpArgs false

/-- How many entries of the nodes of a list tell a place. -/
def cntE (ch : Nat → List Nat) (l : List Nat) (i : Nat) : Nat := (l.map fun a => (ch a).count i).sum
theorem cntE_app (ch : Nat → List Nat) (l r : List Nat) (i : Nat) : cntE ch (l ++ r) i = cntE ch l i + cntE ch r i := by simp [cntE, List.sum_append]
theorem cntE_cons (ch : Nat → List Nat) (a : Nat) (r : List Nat) (i : Nat) : cntE ch (a :: r) i = (ch a).count i + cntE ch r i := by simp [cntE]
/-- What was met behind the first ones, when more were. -/
theorem drop_more {m m' r : List Nat} {n : Nat} (h : m' = m ++ r) (hn : n ≤ m.length) : m'.drop n = m.drop n ++ m'.drop m.length := by
  subst h
  rw [List.drop_append_of_le_length hn, List.drop_left]
/-- The nodes that are met when k entries of a have been gone through. -/
def mtK (ch : Nat → List Nat) (d a : Nat) (m : List Nat) (k : Nat) : List Nat := ((ch a).take k).foldl (ordS ch d) (m ++ [a])
theorem mtK_zero (ch : Nat → List Nat) (d a : Nat) (m : List Nat) : mtK ch d a m 0 = m ++ [a] := rfl
theorem mtK_succ (ch : Nat → List Nat) (d a : Nat) (m : List Nat) {k : Nat} (h : k < (ch a).length) : mtK ch d a m (k + 1) = ordS ch d (mtK ch d a m k) ((ch a).getD k 0) := by
  have e : (ch a).take (k + 1) = (ch a).take k ++ [(ch a).getD k 0] := by
    rw [List.take_add_one, List.getD_eq_getElem?_getD, List.getElem?_eq_getElem h]; rfl
  rw [mtK, mtK, e, List.foldl_append]; rfl
theorem mtK_end (ch : Nat → List Nat) (d a : Nat) (m : List Nat) : mtK ch d a m (ch a).length = ord ch (d + 1) a m := by rw [mtK, List.take_length, ord_succ]
theorem mtK_ext (ch : Nat → List Nat) (d a : Nat) (m : List Nat) (k : Nat) : ∃ r, mtK ch d a m k = m ++ a :: r := by
  obtain ⟨r, hr⟩ := foldS_ext (ord_ext ch d) ((ch a).take k) (m ++ [a])
  exact ⟨r, by rw [mtK, hr]; simp⟩
theorem mtK_len (ch : Nat → List Nat) (d a : Nat) (m : List Nat) (k : Nat) : m.length + 1 ≤ (mtK ch d a m k).length := by
  obtain ⟨r, hr⟩ := mtK_ext ch d a m k
  rw [hr]; simp
/-- The counts when k entries of a have been gone through. -/
def mtE (ch : Nat → List Nat) (d a : Nat) (m : List Nat) (E : Nat → Nat) (k i : Nat) : Nat := E i + ((ch a).take k).count i + cntE ch ((mtK ch d a m k).drop (m.length + 1)) i
theorem mtE_zero (ch : Nat → List Nat) (d a : Nat) (m : List Nat) (E : Nat → Nat) (i : Nat) : mtE ch d a m E 0 i = E i := by
  have e : (m ++ [a]).drop (m.length + 1) = [] := List.drop_eq_nil_of_le (by simp)
  rw [mtE, mtK_zero, e]
  simp [cntE]
theorem mtE_succ (ch : Nat → List Nat) (d a : Nat) (m : List Nat) (E : Nat → Nat) {k : Nat} (h : k < (ch a).length) (i : Nat) :
    mtE ch d a m E (k + 1) i = (mtE ch d a m E k i + if (ch a).getD k 0 = i then 1 else 0) + cntE ch ((mtK ch d a m (k + 1)).drop (mtK ch d a m k).length) i := by
  have e : (ch a).take (k + 1) = (ch a).take k ++ [(ch a).getD k 0] := by
    rw [List.take_add_one, List.getD_eq_getElem?_getD, List.getElem?_eq_getElem h]; rfl
  obtain ⟨r, hr⟩ := ordS_ext ch d (mtK ch d a m k) ((ch a).getD k 0)
  have e2 := drop_more (n := m.length + 1) ((mtK_succ ch d a m h).trans hr) (mtK_len ch d a m k)
  rw [mtE, mtE, e, e2, cntE_app, List.count_append, List.count_singleton]
  have e3 : (if ((ch a).getD k 0 == i) = true then 1 else 0) = (if (ch a).getD k 0 = i then 1 else 0 : Nat) := by
    by_cases h : (ch a).getD k 0 = i <;> simp [h]
  rw [e3]
  omega
/-- The counts when a node has been met. -/
theorem mtE_end (ch : Nat → List Nat) (d a : Nat) (m : List Nat) (E : Nat → Nat) (i : Nat) : mtE ch d a m E (ch a).length i = E i + cntE ch ((ord ch (d + 1) a m).drop m.length) i := by
  obtain ⟨r, hr⟩ := ord_ext ch (d + 1) a m
  have e1 : (m ++ a :: r).drop (m.length + 1) = r := by
    have : (m ++ a :: r) = (m ++ [a]) ++ r := by simp
    rw [this]
    exact List.drop_left' (by simp)
  rw [mtE, mtK_end, hr, e1, List.drop_left, cntE_cons, List.take_length]
  omega
/-- What a call leaves: the nodes met, and the counts. -/
def metE (ch : Nat → List Nat) (d a : Nat) (m : List Nat) (E : Nat → Nat) (i : Nat) : Nat := E i + cntE ch ((ordS ch d m a).drop m.length) i
theorem metE_old {ch : Nat → List Nat} {d a : Nat} {m : List Nat} (E : Nat → Nat) (h : a ∈ m) (i : Nat) : metE ch d a m E i = E i := by
  rw [metE, ordS, if_pos h, List.drop_length]
  rfl
theorem metE_new {ch : Nat → List Nat} {d a : Nat} {m : List Nat} (E : Nat → Nat) (h : a ∉ m) (i : Nat) : metE ch (d + 1) a m E i = mtE ch d a m E (ch a).length i := by
  rw [metE, ordS, if_neg h, mtE_end]
/-- What is met from the root on, and the counts then. -/
theorem metE_root (ch : Nat → List Nat) (i : Nat) : metE ch 60 0 [] (fun _ => 0) i = cntE ch (met ch) i := by
  rw [metE, ordS, if_neg (by simp)]
  simp only [List.length_nil, List.drop_zero, Nat.zero_add]
  rfl
theorem mtK_in {ch : Nat → List Nat} {n : Nat} (hc : ∀ x, x < n → ∀ k ∈ ch x, k < n) (d : Nat) {m : List Nat} {a : Nat} (ha : a < n) (hm : ∀ x ∈ m, x < n) (k : Nat) : ∀ x ∈ mtK ch d a m k, x < n :=
  foldS_ind (P := fun m => ∀ x ∈ m, x < n) (fun j hj m h hn => ord_in (S := (· < n)) hc d j m (hc a ha j (List.mem_of_mem_take hj)) h) (fun x hx => by
    rw [List.mem_append, List.mem_singleton] at hx
    rcases hx with hx | rfl
    · exact hm x hx
    · exact ha)
theorem mtK_nodup (ch : Nat → List Nat) (d : Nat) {m : List Nat} {a : Nat} (hm : m.Nodup) (ha : a ∉ m) (k : Nat) : (mtK ch d a m k).Nodup :=
  foldS_ind (P := List.Nodup) (fun j _ m h hn => ord_nodup ch d j m h hn) (by
    rw [List.nodup_append]
    exact ⟨hm, by simp, fun x hx y hy => by rintro rfl; simp at hy; exact ha (hy ▸ hx)⟩)
/-- All are met: the counts are those of the entries. -/
theorem cnt_up {L : List Nd} (h : met (chs L) = List.range L.length) (i : Nat) : cntE (chs L) (met (chs L)) i = up L i := by rw [cntE, up, h]
end Go.Proofs.Ytijhmpdeohbjhaa

/-
  A worker: its block, its nodes; what it may read; what a store into a node leaves.
-/
namespace Go.Proofs.Ytijhmpdeohbjhaa
open Go.RowKit
set_option linter.unusedVariables false
set_option linter.unusedSimpArgs false

theorem bys_turn0 {M : Nat → Prop} {w w' : World} {a : Option Addr} {n : Nat} {zs : List Int} (h : Bys w a n zs) (ht : Turn M w w') (hm : 0 < n → ∀ b off, a = some ⟨b, off, none⟩ → ¬ M b) : Bys w' a n zs := by
  by_cases h0 : n = 0
  · exact ⟨h.len, h.small, .inl h0⟩
  · exact bys_turn h ht (hm (by omega))
theorem Pin.turn {M : Nat → Prop} {w w' : World} {a : Option Addr} {n c : Nat} {zs : List Int} (h : Pin w a n c zs) (ht : Turn M w w') (hm : 0 < n → ∀ b off, a = some ⟨b, off, none⟩ → ¬ M b) : Pin w' a n c zs := ⟨bys_turn0 h.bys ht hm, h.nil, h.cap, h.max⟩
theorem Ens.turn {M : Nat → Prop} {w w' : World} {a : Option Addr} {n : Nat} {L : List En} (h : Ens w a n L) (ht : Turn M w w') (hm' : 0 < n → ∀ b off, a = some ⟨b, off, none⟩ → ¬ M b) : Ens w' a n L := by
  refine ⟨h.len, ?_⟩
  rcases h.place with h0 | ⟨b, off, ha, hlt, hc⟩
  · exact .inl h0
  · by_cases h0 : n = 0
    · exact .inl h0
    have hm := hm' (by omega)
    refine .inr ⟨b, off, ha, Nat.lt_of_lt_of_le hlt ht.size, fun i hi => ?_⟩
    obtain ⟨h1, h2⟩ := hc i hi
    exact ⟨(ht.cell (a := ⟨b, off + i * 2, none⟩) hlt (hm b off ha)).trans h1, (ht.cell (a := ⟨b, off + i * 2 + 1, none⟩) hlt (hm b off ha)).trans h2⟩
theorem Enz.turn {M : Nat → Prop} {w w' : World} {a : Option Addr} {n c : Nat} {L : List En} (h : Enz w a n c L) (ht : Turn M w w') (hm : 0 < n → ∀ b off, a = some ⟨b, off, none⟩ → ¬ M b) : Enz w' a n c L := ⟨h.ens.turn ht hm, h.nil, h.cap, h.max⟩
theorem Turn.setO {M : Nat → Prop} {w w' : World} (h : Turn M w w') {p : Addr} (hp : M p.block) (u : Value) : Turn M w (w'.setCell p u) := h.trans (.setCell w' hp u)
theorem Turn.next {M : Nat → Prop} {w w' w2 : World} (h : Turn M w w') (hb : Below w'.heap.size w' w2) : Turn M w w2 := h.trans (.of_below hb)

/-- A worker's block. -/
def WkB (w : World) (wb : Nat) (na : Option Addr) (n c : Nat) (pm em : Option Nat) : Prop := w.heap[wb]? = some (.cells #[.slice na n c, .map pm, .map em] 59 (0, 0))
section
variable {w w' : World} {wb n c : Nat} {na : Option Addr} {pm em : Option Nat}
theorem WkB.lt (h : WkB w wb na n c pm em) : wb < w.heap.size := lt_of_block h
theorem WkB.c0 (h : WkB w wb na n c pm em) : w.cell? ⟨wb, 0, none⟩ = some (.slice na n c) := by simp [World.cell?, show w.heap[wb]? = _ from h]
theorem WkB.c1 (h : WkB w wb na n c pm em) : w.cell? ⟨wb, 1, none⟩ = some (.map pm) := by simp [World.cell?, show w.heap[wb]? = _ from h]
theorem WkB.c2 (h : WkB w wb na n c pm em) : w.cell? ⟨wb, 2, none⟩ = some (.map em) := by simp [World.cell?, show w.heap[wb]? = _ from h]
theorem WkB.free (h : WkB w wb na n c pm em) (i : Nat) : w.frozen? ⟨wb, i, none⟩ = false := frozen_of_row w wb i _ _ h
theorem WkB.block {w' : World} (h : WkB w wb na n c pm em) (hb : w'.heap[wb]? = w.heap[wb]?) : WkB w' wb na n c pm em := hb.trans h
theorem WkB.below {B : Nat} (h : WkB w wb na n c pm em) (hB : wb < B) (hb : Below B w w') : WkB w' wb na n c pm em := h.block (hb.block wb hB)
theorem WkB.next (h : WkB w wb na n c pm em) (hb : Below w.heap.size w w') : WkB w' wb na n c pm em := h.below h.lt hb
theorem WkB.set1 (h : WkB w wb na n c pm em) (b : Nat) : WkB (w.setCell ⟨wb, 1, none⟩ (.map (some b))) wb na n c (some b) em := cells_set h
theorem WkB.set2 (h : WkB w wb na n c pm em) (b : Nat) : WkB (w.setCell ⟨wb, 2, none⟩ (.map (some b))) wb na n c pm (some b) := cells_set h
end
/-- A worker that may be read: its block, its nodes. -/
structure Wr (w : World) (wb : Nat) (na : Option Addr) (n c : Nat) (f : Nat → Nc) : Prop where
  wk : ∃ pm em, WkB w wb na n c pm em
  nds : Nds w na n f
theorem Wr.next {w w' : World} {wb n c : Nat} {na : Option Addr} {f : Nat → Nc} (h : Wr w wb na n c f) (hb : Below w.heap.size w w') : Wr w' wb na n c f := by
  obtain ⟨⟨pm, em, hk⟩, hn⟩ := h
  exact ⟨⟨pm, em, hk.next hb⟩, hn.next hb⟩
theorem Wr.c0 {w : World} {wb n c : Nat} {na : Option Addr} {f : Nat → Nc} (h : Wr w wb na n c f) : w.cell? ⟨wb, 0, none⟩ = some (.slice na n c) := by
  obtain ⟨⟨pm, em, hk⟩, hn⟩ := h
  exact hk.c0
theorem Wr.lt {w : World} {wb n c : Nat} {na : Option Addr} {f : Nat → Nc} (h : Wr w wb na n c f) : wb < w.heap.size := by
  obtain ⟨⟨pm, em, hk⟩, hn⟩ := h
  exact hk.lt

end Go.Proofs.Ytijhmpdeohbjhaa
