/-
  The document's reader, in plain words: what it has read, or what was wrong first.
-/
import Derived.Test.YtegcjpocdfmpfaaVac
import Derived.Test.YtegcjpocdfmpfaaVae
import Derived.Test.YtegcjpocdfmpfaaVaj
import Derived.Maps.AppendAt
import Derived.Laws.OwnMore
set_option linter.unusedVariables false
set_option linter.unusedSimpArgs false
set_option maxRecDepth 100000
set_option maxHeartbeats 16000000
namespace Go.Proofs.Ytegcjpocdfmpfaa
open Go.RowKit

/-- What a reader has read; or what was wrong. -/
abbrev St := Except Int (List Int)
def stp (N : Int) (blk : Int → Option (List Int)) (st : St) (q : Int) : St := match st with
  | .error e => .error e
  | .ok l => if isA N q = true then (match blk q with
    | none => .error 14
    | some b => if b.length = 56 then .ok (l ++ [q]) else .error 15) else .error 15
/-- The bytes that a reading answers; the pointers. -/
def dat (N : Int) (blk : Int → Option (List Int)) (st : St) (q : Int) : List Int := match stp N blk st q with
  | .ok _ => (blk q).getD []
  | .error _ => []
def pS (N : Int) (blk : Int → Option (List Int)) (st : St) (q : Int) : List Int := match stp N blk st q with
  | .ok _ => gpL (dat N blk st q) 28
  | .error _ => zer
def one (N : Int) (blk : Int → Option (List Int)) (st : St) (q : Int) : St × List Int × Bool := if q = 0 then (st, zer, false) else (stp N blk st q, pS N blk st q, !som (pS N blk st q))
def ptS (N : Int) (blk : Int → Option (List Int)) (dbl : List Int) (nb : Int) : Nat → Nat → St → List Int → Bool → Bool → St × List Int × Bool × Bool
  | 0, _, st, acc, h, wr => (st, acc, h, wr)
  | k + 1, i, st, acc, h, wr => ptS N blk dbl nb k (i + 1) (one N blk st (num dbl i)).1 (acc ++ (one N blk st (num dbl i)).2.1) (h || (one N blk st (num dbl i)).2.2) (wr || (num dbl i != 0 && decide (nb ≤ 44 + 28 * (i : Int))))
def endS (st : St) (wr : Bool) : St := match st with
  | .error e => .error e
  | .ok l => if wr then .error 15 else .ok l
/-- A node: what is read behind its record. -/
def ndT (N : Int) (blk : Int → Option (List Int)) (st : St) (b : List Int) : St × List Int × Bool :=
  let s := one N blk st (tld b 19)
  let d := one N blk s.1 (tld b 20)
  let q := ptS N blk d.2.1 (blkN (tld b 2)) 28 0 d.1 [] (s.2.2 || d.2.2) false
  let A := dir (tld b) ++ s.2.1 ++ q.2.1
  (endS q.1 (q.2.2.2 || wrA N (blkN (tld b 2)) A A.length), A, q.2.2.1)
section
variable {N : Int} {blk : Int → Option (List Int)}
theorem run_one (l : List Int) (q : Int) : run N blk (rdP q) l = match one N blk (.ok l) q with
    | (.ok l', ks, h) => .ok ((ks, h), l')
    | (.error e, _, _) => .error e := by
  unfold rdP one
  by_cases h0 : q = 0
  · rw [if_pos h0, if_pos h0]; rfl
  · rw [if_neg h0, if_neg h0, run]
    unfold pS dat stp
    by_cases hA : isA N q = true
    · simp only [hA, if_true]
      cases hb : blk q with
      | none => rfl
      | some b =>
        by_cases h5 : b.length = 56
        · simp only [h5, if_true]; rfl
        · simp only [h5, if_false]
    · simp only [hA]; rfl
theorem one_err (e q : Int) : (one N blk (.error e) q).1 = .error e := by
  unfold one
  split <;> rfl
theorem ptS_err (dbl : List Int) (nb e : Int) (k : Nat) : ∀ i acc h wr, (ptS N blk dbl nb k i (.error e) acc h wr).1 = .error e := by
  induction k with
  | zero => intro i acc h wr; rfl
  | succ k ih =>
    intro i acc h wr
    rw [ptS, one_err]
    exact ih _ _ _ _
theorem run_pt (dbl : List Int) (nb : Int) (k : Nat) : ∀ i l acc h wr, run N blk (ptP dbl nb k i acc h wr) l = match ptS N blk dbl nb k i (.ok l) acc h wr with
    | (.ok l', a', h', w') => .ok ((a', h', w'), l')
    | (.error e, _, _, _) => .error e := by
  induction k with
  | zero => intro i l acc h wr; rfl
  | succ k ih =>
    intro i l acc h wr
    rw [ptP, run_bind, run_one, ptS]
    cases hs : one N blk (.ok l) (num dbl i) with
    | mk st r =>
      obtain ⟨ks, h'⟩ := r
      cases st with
      | ok l' => exact ih _ _ _ _ _
      | error e =>
        have he := ptS_err (N := N) (blk := blk) dbl nb e k (i + 1) (acc ++ ks) (h || h') (wr || (num dbl i != 0 && decide (nb ≤ 44 + 28 * (i : Int))))
        show _ = match ptS N blk dbl nb k (i + 1) (.error e) (acc ++ ks) (h || h') (wr || (num dbl i != 0 && decide (nb ≤ 44 + 28 * (i : Int)))) with
          | (.ok l', a', h', w') => Except.ok ((a', h', w'), l')
          | (.error e, _, _, _) => Except.error e
        cases hp : ptS N blk dbl nb k (i + 1) (.error e) (acc ++ ks) (h || h') (wr || (num dbl i != 0 && decide (nb ≤ 44 + 28 * (i : Int)))) with
        | mk st2 r2 =>
          rw [hp] at he
          obtain rfl : st2 = .error e := he
          rfl
/-- Behind a record that is right. -/
theorem run_nd (ino p : Int) (l : List Int) : run N blk (ndP N ino p) l = match stp N blk (.ok l) p with
    | .error e => .error e
    | .ok l1 => if okG (dat N blk (.ok l) p) = true then (match ndT N blk (.ok l1) (dat N blk (.ok l) p) with
      | (.ok l', A, h) => .ok ((⟨ino, tld (dat N blk (.ok l) p) 0, tld (dat N blk (.ok l) p) 1, tld (dat N blk (.ok l) p) 2, trm A⟩, h), l')
      | (.error e, _, _) => .error e) else .error 15 := by
  rw [ndP, run]
  unfold dat stp
  by_cases hA : isA N p = true
  · simp only [hA, if_true]
    cases hb : blk p with
    | none => rfl
    | some b =>
      by_cases h5 : b.length = 56
      · simp only [h5, if_true, Option.getD_some]
        by_cases hg : okG b = true
        · simp only [hg, if_true]
          unfold ndT
          rw [run_bind, run_one]
          cases hs : one N blk (.ok (l ++ [p])) (tld b 19) with
          | mk st r =>
            obtain ⟨ks, h1⟩ := r
            cases st with
            | error e =>
              simp only [one_err, ptS_err, endS]
            | ok l2 =>
              simp only
              rw [run_bind, run_one]
              cases hd : one N blk (.ok l2) (tld b 20) with
              | mk st r =>
                obtain ⟨ds, h2⟩ := r
                cases st with
                | error e => simp only [ptS_err, endS]
                | ok l3 =>
                  simp only
                  rw [run_bind, run_pt]
                  cases hp : ptS N blk ds (blkN (tld b 2)) 28 0 (.ok l3) [] (h1 || h2) false with
                  | mk st r =>
                    obtain ⟨acc, h4, wr⟩ := r
                    cases st with
                    | error e => simp only [endS]
                    | ok l4 =>
                      simp only [endS]
                      cases hw : (wr || wrA N (blkN (tld b 2)) (dir (tld b) ++ ks ++ acc) (dir (tld b) ++ ks ++ acc).length) with
                      | true => rfl
                      | false => rfl
        · simp only [hg]; rfl
      · simp only [h5, if_false]
  · simp only [hA]; rfl
end

theorem som_iff {ks : List Int} : som ks = true ↔ ∃ i, i < ks.length ∧ num ks i ≠ 0 := by
  rw [som, List.any_eq_true]
  constructor
  · rintro ⟨x, hx, hne⟩
    obtain ⟨i, hi, rfl⟩ := List.getElem_of_mem hx
    exact ⟨i, hi, by simpa [num, List.getD, hi] using hne⟩
  · rintro ⟨i, hi, hne⟩
    exact ⟨ks[i], List.getElem_mem hi, by simpa [num, List.getD, hi] using hne⟩
theorem som_false {ks : List Int} (h : ∀ i, i < ks.length → num ks i = 0) : som ks = false := by
  cases hs : som ks with
  | false => rfl
  | true =>
    obtain ⟨i, hi, hne⟩ := som_iff.1 hs
    exact absurd (h i hi) hne
theorem rnone_any (a : Option Addr) (n c : Nat) (ks : List Int) (w : World) (h : Ins w a n ks) (hn : n ≤ 1000000000000) :
    Calls Try.prog 110 #[.slice a n c] w fun e w' => e = .returned (.bool (!som ks)) ∧ Below w.heap.size w w' := by
  have HI := Lib.hid h
  have HL := Lib.hid h.len
  have HN := Lib.hid hn
  clear h hn
  go_enter Try.func110, Try.ntmps110
  go_wp2_with (fail)
  go_loopw [3] (fun v wr => ∃ i : Nat, i ≤ n ∧ v = .int .i64 i ∧ (∀ j, j < i → num ks j = 0) ∧ Below w.heap.size w wr) (fun v _ => n - (RowKit.intOf v).toNat)
  case atStart => exact ⟨0, by omega, rfl, (fun j hj => by omega), Below.refl _ _⟩
  case round =>
    obtain ⟨i, hi, rfl, hz, hb⟩ := hrel
    have HZ := Lib.hid hz
    have HB := Lib.hid hb
    have hn := HN.out
    clear hz hb
    by_cases hlt : i < n
    · obtain ⟨b, off, rfl, hbl, hcs⟩ := (HI.out.next HB.out).at (by omega : 0 < n)
      have hc1 := hcs i hlt
      obtain ⟨z, hz⟩ : ∃ z, z = num ks i := ⟨_, rfl⟩
      rw [← hz] at hc1
      have HE := Lib.hid hz
      clear hcs hz hbl
      by_cases ez : z = 0
      · have dz : (z != 0) = false := by simp [ez]
        have HEZ := Lib.hid ez
        clear ez
        go_wp2_with (fail)
        go_roundw
        case rel => exact ⟨i + 1, by omega, by go_num, (fun j hj => by
          by_cases e : j = i
          · subst e; rw [← HE.out]; exact HEZ.out
          · exact HZ.out j (by omega)), HB.out⟩
        case measure => simp [RowKit.intOf]; omega
      · have dz : (z != 0) = true := by simp [ez]
        have HS := Lib.hid (show som ks = true from som_iff.2 ⟨i, by rw [HL.out]; exact hlt, by rw [← HE.out]; exact ez⟩)
        clear ez
        go_wp2_with (fail)
        go_ret
        exact ⟨ret_bool (by rw [HS.out]; rfl), HB.out⟩
    · obtain rfl : i = n := by omega
      have HS := Lib.hid (som_false (ks := ks) fun j hj => HZ.out j (by rw [HL.out] at hj; exact hj))
      go_wp2_with (fail)
      go_ret
      exact ⟨ret_bool (by rw [HS.out]; rfl), HB.out⟩

/-- Blocks by their addresses: the first that has the address. -/
def blkF (ks : List Int) (f : Nat → Pc) (q : Int) : Option (List Int) := ((List.range ks.length).find? fun i => num ks i == q).map fun i => (f i).zs
theorem blkF_at {ks : List Int} {f : Nat → Pc} {q : Int} {i : Nat} (hi : i < ks.length) (h : num ks i = q) (hn : ∀ j, j < i → num ks j ≠ q) : blkF ks f q = some (f i).zs := by
  have : (List.range ks.length).find? (fun i => num ks i == q) = some i := by
    rw [List.find?_range_eq_some]
    exact ⟨by simpa using h, by simpa using hi, fun j hj => by simpa using hn j hj⟩
  rw [blkF, this]
  rfl
theorem blkF_no {ks : List Int} {f : Nat → Pc} {q : Int} (hn : ∀ j, j < ks.length → num ks j ≠ q) : blkF ks f q = none := by
  have : (List.range ks.length).find? (fun i => num ks i == q) = none := by
    rw [List.find?_eq_none]
    intro j hj
    simpa using hn j (List.mem_range.1 hj)
  rw [blkF, this]
  rfl
/-- A store in memory. -/
structure Sto (w : World) (p : Nat) (A : Option Addr) (nA cA : Nat) (Dt : Option Addr) (nD cD : Nat) (ks : List Int) (f : Nat → Pc) : Prop where
  lt : p < w.heap.size
  c0 : w.cell? ⟨p, 0, none⟩ = some (.slice A nA cA)
  c1 : w.cell? ⟨p, 1, none⟩ = some (.slice Dt nD cD)
  ad : Ins w A nA ks
  da : Rws w Dt nD f
  le : nA ≤ nD
  mx : nA ≤ 1000000
  few : ∀ i, i < nA → (f i).n ≤ 1000000000000
section
variable {w w' : World} {p : Nat} {A : Option Addr} {nA cA : Nat} {Dt : Option Addr} {nD cD : Nat} {ks : List Int} {f : Nat → Pc}
theorem Sto.next (h : Sto w p A nA cA Dt nD cD ks f) (hb : Below w.heap.size w w') : Sto w' p A nA cA Dt nD cD ks f :=
  ⟨Nat.lt_of_lt_of_le h.lt hb.size, (hb.cell (p := ⟨p, 0, none⟩) h.lt).trans h.c0, (hb.cell (p := ⟨p, 1, none⟩) h.lt).trans h.c1, h.ad.next hb, h.da.next hb, h.le, h.mx, h.few⟩
/-- What Block answers. -/
def BlkPost (w : World) (x : Option (List Int)) (e : Ending) (w' : World) : Prop :=
  (x = none → e = .returned (.tuple #[.slice none 0 0, .int .i64 14])) ∧
  (∀ z, x = some z → ∃ a n c, e = .returned (.tuple #[.slice a n c, .int .i64 0]) ∧ Pin w' a n c z ∧ ∀ y, a = some y → w.heap.size ≤ y.block) ∧ Below w.heap.size w w'
theorem rblk_any (q : Int) (h : Sto w p A nA cA Dt nD cD ks f) :
    Calls Try.prog 107 #[.pointer (some ⟨p, 0, none⟩), .int .i64 q] w (BlkPost w (blkF ks f q)) := by
  have HS := Lib.hid h
  clear h
  go_enter Try.func107, Try.ntmps107
  go_wp2_with (fail)
  go_loopw [6] (fun v wr => ∃ i : Nat, i ≤ nA ∧ v = .int .i64 i ∧ (∀ j, j < i → num ks j ≠ q) ∧ Below w.heap.size w wr) (fun v _ => nA - (RowKit.intOf v).toNat)
  case atStart => exact ⟨0, by omega, rfl, (fun j hj => by omega), Below.refl _ _⟩
  case round =>
    obtain ⟨i, hi, rfl, hne, hb⟩ := hrel
    have HN := Lib.hid hne
    have HB := Lib.hid hb
    have HR := Lib.hid (HS.out.next hb)
    have c0 := HR.out.c0
    have c1 := HR.out.c1
    have hmx := HR.out.mx
    clear hne hb
    by_cases hlt : i < nA
    · obtain ⟨b, off, rfl, hbl, hcs⟩ := HR.out.ad.at (by omega : 0 < nA)
      have hc1 := hcs i hlt
      obtain ⟨z, hz⟩ : ∃ z, z = num ks i := ⟨_, rfl⟩
      rw [← hz] at hc1
      have HZ := Lib.hid hz
      clear hcs hz hbl
      by_cases ez : z = q
      · have dz : (z == q) = true := by simp [ez]
        have HX := Lib.hid (blkF_at (f := f) (i := i) (by rw [HR.out.ad.len]; exact hlt) (by rw [← HZ.out, ez]) HN.out)
        have hld := HR.out.le
        obtain ⟨b2, o2, e2, hl2, hr2⟩ : ∃ b off, Dt = some ⟨b, off, none⟩ ∧ b < wr.heap.size ∧ ∀ i, i < nD → wr.cell? ⟨b, off + i, none⟩ = some (.slice (f i).a (f i).n (f i).c) := by
          rcases HR.out.da.place with h0 | h
          · omega
          · exact h
        have hcd := hr2 i (by omega)
        have hpl := HR.out.lt
        rw [e2] at c1
        have HPI := Lib.hid (HR.out.da.each i (by omega))
        have HFW := Lib.hid (HR.out.few i hlt)
        have i2 : (i : Int) < (nD : Int) := by omega
        have hbs := (Below.refl wr.heap.size wr).alloc (Nat.le_refl _) (.cells #[] 5)
        have HBS := Lib.hid hbs
        clear ez e2 hr2 hbs
        go_wp2_with (at_builtin; go_must (refine wpList_ap rfl (.tmp 27) (.tmp 34) rfl wr.heap.size _ 0 [] rfl (own_none wr wr.heap.size (Nat.le_refl _)) (f i).a (f i).n (f i).c (f i).zs rfl (HPI.out.bys.alloc _) HPI.out.nil (by have := HFW.out; omega) (by simp) wr HBS.out ?_); intro v w1 o b; obtain ⟨a9, c9, rfl, hp9, hn9⟩ := o.pin; have HP9 := Lib.hid hp9; have HN9 := Lib.hid hn9; have HB9 := Lib.hid b; clear hp9 hn9 b o)
        go_ret2
        refine ⟨(fun e => by rw [HX.out] at e; cases e), fun z e => ?_, HB.out.trans (HB9.out.mono HB.out.size)⟩
        rw [HX.out] at e
        cases e
        exact ⟨_, _, _, rfl, by simpa using HP9.out, fun y e => Nat.le_trans HB.out.size (HN9.out y e).1⟩
      · have dz : (z == q) = false := by simp [ez]
        have HEZ := Lib.hid ez
        clear ez
        go_wp2_with (fail)
        go_roundw
        case rel => exact ⟨i + 1, by omega, by go_num, (fun j hj => by
          by_cases e : j = i
          · subst e; rw [← HZ.out]; exact HEZ.out
          · exact HN.out j (by omega)), HB.out⟩
        case measure => simp [RowKit.intOf]; omega
    · obtain rfl : i = nA := by omega
      have HX := Lib.hid (blkF_no (ks := ks) (f := f) (q := q) fun j hj => HN.out j (by rw [HR.out.ad.len] at hj; exact hj))
      go_wp2_with (fail)
      go_ret2
      exact ⟨fun _ => rfl, (fun z e => by rw [HX.out] at e; cases e), HB.out⟩
end

/-- Of the blocks that were there only those of M have turned. -/
structure Turn (M : Nat → Prop) (w w' : World) : Prop where
  os : w'.os = w.os
  tape : w'.tape = w.tape
  output : w'.output = w.output
  size : w.heap.size ≤ w'.heap.size
  block : ∀ k, k < w.heap.size → ¬ M k → w'.heap[k]? = w.heap[k]?
theorem Turn.refl (M : Nat → Prop) (w : World) : Turn M w w := ⟨rfl, rfl, rfl, Nat.le_refl _, fun _ _ _ => rfl⟩
theorem Turn.trans {M : Nat → Prop} {a b c : World} (h : Turn M a b) (k : Turn M b c) : Turn M a c :=
  ⟨k.os.trans h.os, k.tape.trans h.tape, k.output.trans h.output, Nat.le_trans h.size k.size, fun i hi hm => (k.block i (Nat.lt_of_lt_of_le hi h.size) hm).trans (h.block i hi hm)⟩
/-- What the second step turns is of the first one's, or new. -/
theorem Turn.trans2 {M M' : Nat → Prop} {a b c : World} (h : Turn M a b) (k : Turn M' b c) (hm : ∀ j, M' j → M j ∨ a.heap.size ≤ j) : Turn M a c :=
  ⟨k.os.trans h.os, k.tape.trans h.tape, k.output.trans h.output, Nat.le_trans h.size k.size, fun i hi hn => (k.block i (Nat.lt_of_lt_of_le hi h.size) (fun h' => by
    rcases hm i h' with h1 | h1
    · exact hn h1
    · omega)).trans (h.block i hi hn)⟩
theorem Turn.mono {M M' : Nat → Prop} {w w' : World} (h : Turn M w w') (hm : ∀ k, M k → M' k) : Turn M' w w' := ⟨h.os, h.tape, h.output, h.size, fun k hk hn => h.block k hk fun x => hn (hm k x)⟩
theorem Turn.of_below {M : Nat → Prop} {w w' : World} (h : Below w.heap.size w w') : Turn M w w' := ⟨h.os, h.tape, h.output, h.size, fun k hk _ => h.block k hk⟩
theorem Turn.of_grown {M : Nat → Prop} {w w' : World} {row : Option Nat} (h : w.grownBy w' row) (hb : ∀ b, row = some b → M b) : Turn M w w' :=
  ⟨h.os, h.tape, h.output, h.size, fun k hk hn => h.block k hk (fun e => hn (hb k e.symm))⟩
theorem Turn.setCell {M : Nat → Prop} (w : World) {a : Addr} (hb : M a.block) (u : Value) : Turn M w (w.setCell a u) :=
  ⟨rfl, rfl, rfl, by simp [World.setCell], fun k _ hn => Below.heap_setCell w a u k (fun e => hn (e ▸ hb))⟩
theorem Turn.below {M : Nat → Prop} {w w' : World} (h : Turn M w w') {B : Nat} (hB : B ≤ w.heap.size) (hm : ∀ k, M k → B ≤ k) : Below B w w' :=
  ⟨h.os, h.tape, h.output, h.size, fun k hk => h.block k (by omega) fun x => by have := hm k x; omega⟩
theorem Turn.cell {M : Nat → Prop} {w w' : World} (h : Turn M w w') {a : Addr} (hlt : a.block < w.heap.size) (hm : ¬ M a.block) : w'.cell? a = w.cell? a := World.cell?_of_block (w := w) (h.block _ hlt hm)
theorem Turn.frozen {M : Nat → Prop} {w w' : World} (h : Turn M w w') {a : Addr} (hlt : a.block < w.heap.size) (hm : ¬ M a.block) : w'.frozen? a = w.frozen? a := World.frozen?_of_block (w := w) (h.block _ hlt hm)
theorem Ins.turn {M : Nat → Prop} {w w' : World} {a : Option Addr} {n : Nat} {ks : List Int} (h : Ins w a n ks) (ht : Turn M w w') (hm : ∀ y, a = some y → ¬ M y.block) : Ins w' a n ks := by
  refine ⟨h.len, ?_⟩
  rcases h.place with h0 | ⟨b, off, ha, hlt, hc⟩
  · exact .inl h0
  · exact .inr ⟨b, off, ha, Nat.lt_of_lt_of_le hlt ht.size, fun i hi => (ht.cell (a := ⟨b, off + i, none⟩) hlt (hm ⟨b, off, none⟩ ha)).trans (hc i hi)⟩
theorem Pin.turn {M : Nat → Prop} {w w' : World} {a : Option Addr} {n c : Nat} {zs : List Int} (h : Pin w a n c zs) (ht : Turn M w w') (hm : ∀ y, a = some y → ¬ M y.block) : Pin w' a n c zs := by
  refine ⟨⟨h.bys.len, h.bys.small, ?_⟩, h.nil, h.cap, h.max⟩
  rcases h.bys.place with h0 | ⟨b, off, ha, hlt, hc⟩
  · exact .inl h0
  · exact .inr ⟨b, off, ha, Nat.lt_of_lt_of_le hlt ht.size, fun i hi => (ht.cell (a := ⟨b, off + i, none⟩) hlt (hm ⟨b, off, none⟩ ha)).trans (hc i hi)⟩
theorem OwnI.turn {M : Nat → Prop} {w w' : World} {B : Nat} {v : Value} {n : Nat} {ks : List Int} (h : OwnI w B v n ks) (ht : Turn M w w') (hm : ∀ j, v.ownBlock = some j → ¬ M j) : OwnI w' B v n ks := by
  refine ⟨h.1, ?_⟩
  rcases h.2 with h1 | ⟨g, cap, cur, rfl, hb, hg, r⟩
  · exact .inl h1
  · exact .inr ⟨g, cap, cur, rfl, hb, (ht.block g (lt_of_block hg) (hm g rfl)).trans hg, r⟩
/-- 'append(s, l...)' of numbers, s of the call's own. -/
theorem app_run {w : World} {B : Nat} {v : Value} {n : Nat} {ks : List Int} (hown : OwnI w B v n ks) {a : Option Addr} {m c : Nat} {ys : List Int} (hu : Ins w a m ys) (hnil : a = none → m = 0 ∧ c = 0) (hnm : n + m ≤ 1000000000000) (hB : B ≤ w.heap.size) (ty : TypeId) :
    ∃ v' w', (Builtin.append_ #[25, 25] ty #[v, .slice a m c]).run Try.prog w = .ok v' w' ∧ OwnI w' B v' (n + m) (ks ++ ys) ∧ w.grownBy w' v.ownBlock ∧ (v'.ownBlock = v.ownBlock ∨ v'.ownBlock = some w.heap.size) := by
  obtain ⟨i0, hi, hz0, hz1, hz2⟩ := info_parts info3
  cases a with
  | none =>
    obtain ⟨rfl, rfl⟩ := hnil rfl
    have hy : ys = [] := List.eq_nil_of_length_eq_zero hu.len
    subst hy
    exact ⟨v, w, run_append_owned_none (P := Try.prog) (w := w) B 25 ty 3 i0 1 Try.underlying25 hi v n _ hown, by rw [List.append_nil]; exact hown, World.grownBy.refl _ _, .inl rfl⟩
  | some p =>
    obtain ⟨v', w', hr, h2, h3, _, h5⟩ := run_append_own_at (P := Try.prog) w B 25 ty 3 i0 (.int .i64 0) 1 8 Try.underlying25 hi hz0 hz1 hz2 rfl (by decide) v n _ hown p m c (ys.map (Value.int .i64)) (by simp [hu.len])
      (fun j x hj => by
        have hj' : j < ys.length := by
          rcases Nat.lt_or_ge j ys.length with h | h
          · exact h
          · rw [List.getElem?_eq_none (by simpa using h)] at hj; cases hj
        obtain ⟨b, off, e, _, hc⟩ := hu.at (by rw [← hu.len]; omega)
        cases e
        rw [show (⟨b, off, none⟩ : Addr).add j = ⟨b, off + j, none⟩ by unfold Addr.add; split <;> simp_all, hc j (by rw [← hu.len]; exact hj')]
        rw [List.getElem?_map, List.getElem?_eq_getElem hj'] at hj
        simp at hj
        simp [num, List.getD, hj', hj])
      (fun x hx => by obtain ⟨z, _, rfl⟩ := List.mem_map.1 hx; rfl) (by unfold maxLen; omega) (by omega) hB
    exact ⟨v', w', hr, by unfold OwnI; rw [List.map_append]; exact h2, h3, h5⟩
theorem wpList_apq {w : World} {ops : Array Oper} {rest : List Oper} {o : Oper} {a : Act} {Q : Exit → Act → World → Prop} (hgd : o.guard = none) (s x : Operand)
    (ho : o.op = .call { callee := .builtin .append, args := #[s, x], argTypes := #[25, 25] })
    (B : Nat) (v : Value) (n : Nat) (ks : List Int) (hs : a.eval s = v) (hown : OwnI w B v n ks) (ad : Option Addr) (m c : Nat) (ys : List Int) (hx : a.eval x = .slice ad m c) (hu : Ins w ad m ys) (hnil : ad = none → m = 0 ∧ c = 0)
    (hnm : n + m ≤ 1000000000000) (hB : B ≤ w.heap.size)
    (h : ∀ v' w', OwnI w' B v' (n + m) (ks ++ ys) → w.grownBy w' v.ownBlock → (v'.ownBlock = v.ownBlock ∨ v'.ownBlock = some w.heap.size) → wpList Try.prog ops Q rest (a.put o.dst v') w') : wpList Try.prog ops Q (o :: rest) a w := by
  obtain ⟨v', w', hr, h2, h3, h4⟩ := app_run hown hu hnil hnm hB o.type
  refine wpList_plain hgd fun K hK => ?_
  unfold Oper.wp execOp
  simp only [ho, resolve, invoke, builtin, Sem.run_bind, Sem.run_pure, Result.andThen_ok, List.map_toArray, List.map_cons, List.map_nil, hs, hx, hr]
  exact hK _ _ (h v' w' h2 h3 h4)

/-- What a reader is over. -/
structure Sv where
  d : Int
  r : Int
  s : Int
  p : Nat
  A : Option Addr
  nA : Nat
  cA : Nat
  Dt : Option Addr
  nD : Nat
  cD : Nat
  ks : List Int
  f : Nat → Pc
  w0 : World
abbrev Sv.N (S : Sv) : Int := adN S.d S.r S.s
abbrev Sv.blk (S : Sv) : Int → Option (List Int) := blkF S.ks S.f
structure RdAt (w : World) (S : Sv) (g : Nat) (v : Value) (l : List Int) (bad : Int) : Prop where
  rt : Rt S.d S.r S.s
  lt : g < w.heap.size
  c0 : w.cell? ⟨g, 0, none⟩ = some (.int .i64 S.d)
  c1 : w.cell? ⟨g, 1, none⟩ = some (.int .i64 S.r)
  c2 : w.cell? ⟨g, 2, none⟩ = some (.int .i64 S.s)
  c3 : w.cell? ⟨g, 3, none⟩ = some (.pointer (some ⟨S.p, 0, none⟩))
  c4 : w.cell? ⟨g, 4, none⟩ = some v
  c5 : w.cell? ⟨g, 5, none⟩ = some (.int .i64 bad)
  fr : ∀ i, w.frozen? ⟨g, i, none⟩ = false
  own : OwnI w S.w0.heap.size v l.length l
  sto : Sto S.w0 S.p S.A S.nA S.cA S.Dt S.nD S.cD S.ks S.f
  bel : Below S.w0.heap.size S.w0 w
  gB : S.w0.heap.size ≤ g
  vg : v.ownBlock ≠ some g
/-- The blocks that a reader's calls turn. -/
def Tv (g : Nat) (v : Value) (j : Nat) : Prop := j = g ∨ v.ownBlock = some j
section
variable {w w' : World} {S : Sv} {g : Nat} {v : Value} {l : List Int} {bad : Int}
theorem RdAt.turn {M : Nat → Prop} (h : RdAt w S g v l bad) (ht : Turn M w w') (hm : ∀ j, M j → ¬ Tv g v j ∧ S.w0.heap.size ≤ j) : RdAt w' S g v l bad := by
  have hg : ¬ M g := fun h' => (hm g h').1 (.inl rfl)
  have c := fun i => ht.cell (a := ⟨g, i, none⟩) h.lt hg
  refine ⟨h.rt, Nat.lt_of_lt_of_le h.lt ht.size, (c 0).trans h.c0, (c 1).trans h.c1, (c 2).trans h.c2, (c 3).trans h.c3, (c 4).trans h.c4, (c 5).trans h.c5, fun i => (ht.frozen (a := ⟨g, i, none⟩) h.lt hg).trans (h.fr i), h.own.turn ht (fun j e h' => (hm j h').1 (.inr e)), h.sto, h.bel.trans (ht.below h.bel.size fun j hj => (hm j hj).2), h.gB, h.vg⟩
theorem RdAt.next (h : RdAt w S g v l bad) (hb : Below w.heap.size w w') : RdAt w' S g v l bad := h.turn (M := fun _ => False) (Turn.of_below hb) (fun j hj => hj.elim)
theorem RdAt.stoN (h : RdAt w S g v l bad) : Sto w S.p S.A S.nA S.cA S.Dt S.nD S.cD S.ks S.f := h.sto.next h.bel
/-- Bad is set. -/
theorem RdAt.setBad (h : RdAt w S g v l bad) (e : Int) : RdAt (w.setCell ⟨g, 5, none⟩ (.int .i64 e)) S g v l e := by
  have ht : Turn (· = g) w (w.setCell ⟨g, 5, none⟩ (.int .i64 e)) := Turn.setCell (M := (· = g)) (a := ⟨g, 5, none⟩) w rfl _
  have c := fun i (hi : i ≠ 5) (u : Value) => World.cell?_setCell_other w ⟨g, 5, none⟩ ⟨g, i, none⟩ u (by simp [hi])
  refine ⟨h.rt, Nat.lt_of_lt_of_le h.lt ht.size, ?_, ?_, ?_, ?_, ?_, ?_, ?_, h.own.turn ht (fun j e h' => by subst h'; exact h.vg e), h.sto, h.bel.trans (ht.below h.bel.size fun j hj => by rw [hj]; exact h.gB), h.gB, h.vg⟩
  · rw [World.cell?_setCell_other _ _ _ _ (by simp)]; exact h.c0
  · rw [World.cell?_setCell_other _ _ _ _ (by simp)]; exact h.c1
  · rw [World.cell?_setCell_other _ _ _ _ (by simp)]; exact h.c2
  · rw [World.cell?_setCell_other _ _ _ _ (by simp)]; exact h.c3
  · rw [World.cell?_setCell_other _ _ _ _ (by simp)]; exact h.c4
  · exact World.cell?_setCell_same _ _ _ h.c5
  · intro i
    rw [World.frozen?_setCell]
    exact h.fr i
theorem OwnI.form {B : Nat} {n : Nat} {ks : List Int} (h : OwnI w B v n ks) : ∃ a c, v = .slice a n c := by
  rcases h.2 with ⟨rfl, h0⟩ | ⟨g', cap, cur, rfl, _⟩
  · have := h.1
    simp at this
    exact ⟨none, 0, by rw [h0]⟩
  · exact ⟨_, _, rfl⟩
/-- One more address is read. -/
theorem RdAt.grow {v' : Value} {q : Int} (h : RdAt w S g v l bad) (hO : OwnI w' S.w0.heap.size v' (l.length + 1) (l ++ [q])) (hG : w.grownBy w' v.ownBlock) (hv : v'.ownBlock = v.ownBlock ∨ v'.ownBlock = some w.heap.size) :
    (w'.cell? ⟨g, 4, none⟩ = some v ∧ w'.frozen? ⟨g, 4, none⟩ = false ∧ g < w'.heap.size) ∧ RdAt (w'.setCell ⟨g, 4, none⟩ v') S g v' (l ++ [q]) bad ∧ Turn (Tv g v) w (w'.setCell ⟨g, 4, none⟩ v') := by
  have ht : Turn (fun j => v.ownBlock = some j) w w' := Turn.of_grown hG (fun b e => e)
  have hg : ¬ v.ownBlock = some g := h.vg
  have c := fun i => ht.cell (a := ⟨g, i, none⟩) h.lt hg
  have fz := fun i => (ht.frozen (a := ⟨g, i, none⟩) h.lt hg).trans (h.fr i)
  have hlow : ∀ j, v.ownBlock = some j → S.w0.heap.size ≤ j := fun j e => (World.ownsRow.lt h.own j e).1
  have h4 : w'.cell? ⟨g, 4, none⟩ = some v := (c 4).trans h.c4
  have ht2 : Turn (· = g) w' (w'.setCell ⟨g, 4, none⟩ v') := Turn.setCell (M := (· = g)) (a := ⟨g, 4, none⟩) w' rfl _
  have hv2 : v'.ownBlock ≠ some g := by
    rcases hv with e | e
    · rw [e]; exact h.vg
    · rw [e]
      intro e2
      have := h.lt
      simp only [Option.some.injEq] at e2
      omega
  refine ⟨⟨h4, fz 4, Nat.lt_of_lt_of_le h.lt ht.size⟩, ⟨h.rt, Nat.lt_of_lt_of_le h.lt (Nat.le_trans ht.size ht2.size), ?_, ?_, ?_, ?_, ?_, ?_, ?_, ?_, h.sto, ?_, h.gB, hv2⟩, ?_⟩
  · rw [World.cell?_setCell_other _ _ _ _ (by simp)]; exact (c 0).trans h.c0
  · rw [World.cell?_setCell_other _ _ _ _ (by simp)]; exact (c 1).trans h.c1
  · rw [World.cell?_setCell_other _ _ _ _ (by simp)]; exact (c 2).trans h.c2
  · rw [World.cell?_setCell_other _ _ _ _ (by simp)]; exact (c 3).trans h.c3
  · exact World.cell?_setCell_same _ _ _ h4
  · rw [World.cell?_setCell_other _ _ _ _ (by simp)]; exact (c 5).trans h.c5
  · intro i
    rw [World.frozen?_setCell]
    exact fz i
  · have := hO.turn ht2 (fun j e h' => by subst h'; exact hv2 e)
    simpa using this
  · exact (h.bel.trans (ht.below h.bel.size hlow)).trans (ht2.below (h.bel.trans (ht.below h.bel.size hlow)).size fun j hj => by rw [hj]; exact h.gB)
  · exact (ht.mono fun j e => .inr e).trans (ht2.mono fun j e => .inl e)
end
end Go.Proofs.Ytegcjpocdfmpfaa
