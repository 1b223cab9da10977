/-
  slices.DeleteFunc of entries in a row of the call's own, by contract.
-/
import Derived.Test.YtiedapiepklhlaaPu
namespace Go.Proofs.Ytiedapiepklhlaa
open Go.RowKit
set_option linter.unusedVariables false
set_option linter.unusedSimpArgs false

/-- The cells of k entries of nought. -/
def zerE (k : Nat) : List Value := (Builtin.zeroCells (Value.agg #[.string ByteArray.empty, .int .i64 0]).cells k).toList
theorem zerE_len (k : Nat) : (zerE k).length = k * 2 := by
  unfold zerE
  rw [Array.length_toList]
  exact size_zeroCells _ k
theorem zerE_one (k : Nat) : ∀ v ∈ zerE k, v.oneCell' = true := by
  intro v hv
  unfold zerE Builtin.zeroCells at hv
  rw [Array.toList_map] at hv
  obtain ⟨m, _, rfl⟩ := List.mem_map.1 hv
  have hs : (Value.agg #[.string ByteArray.empty, .int .i64 0]).cells.size = 2 := rfl
  rw [hs]
  rcases (by omega : m % 2 = 0 ∨ m % 2 = 1) with e | e <;> rw [e] <;> rfl
theorem run_clearE (w : World) (ty : TypeId) (g o k cc : Nat) (cur : List Value) (hg : RowE w g cur) (hk : 0 < k) (hfit : o + k * 2 ≤ cur.length) :
    (Builtin.clear_ #[22] ty #[.slice (some ⟨g, o, none⟩) k cc]).run Try.prog w = .ok (.tuple #[]) (w.setRow g (splice cur o (zerE k)).toArray) := by
  obtain ⟨i0, hi, hz0, hz1, hz2⟩ := info_parts infoE
  have hst := run_storeCells_at Try.prog g o _ (zerE k) 0 cur.toArray w hg (by simpa [zerE_len] using hfit) (zerE_one k)
  have hzv : (zeroValue 36).run Try.prog w = .ok (.agg #[.string ByteArray.empty, .int .i64 0]) w := by simp [zeroValue, typeInfo, hi, hz0]
  obtain ⟨m, rfl⟩ : ∃ m, k = m + 1 := ⟨k - 1, by omega⟩
  have hst' : (storeCells ⟨g, o, none⟩ (Builtin.zeroCells (Value.agg #[.string ByteArray.empty, .int .i64 0]).cells (m + 1)).toList).run Try.prog w = .ok () (w.setRow g (splice cur o (zerE (m + 1))).toArray) := by
    have e : splice cur o (zerE (m + 1)) = cur.take o ++ zerE (m + 1) ++ cur.drop (o + (zerE (m + 1)).length) := by unfold splice; rw [List.append_assoc]
    rw [e]
    show Sem.run Try.prog (storeCells ⟨g, o, none⟩ (zerE (m + 1))) w = _
    simpa using hst
  simp only [Builtin.clear_, Sem.run_bind, run_underlying Try.underlying22, Result.andThen_ok, hzv, hst', Sem.run_pure]
  simp [hzv, hst', Result.andThen]
theorem filter_no {p : En → Bool} {L : List En} {k : Nat} (hk : k ≤ L.length) (h : NoTo p L k) : (L.take k).filter (fun x => !p x) = L.take k := by
  rw [List.filter_eq_self]
  intro x hx
  obtain ⟨i, hi, rfl⟩ := List.getElem_of_mem hx
  have hi2 : i < k := by rw [List.length_take] at hi; omega
  have e : (L.take k)[i] = eat L i := by
    rw [List.getElem_take]
    simp [eat, List.getD, show i < L.length by omega]
  rw [e, h i hi2]
  rfl
theorem filter_step {p : En → Bool} {L : List En} {j : Nat} (hj : j < L.length) : (L.take (j + 1)).filter (fun x => !p x) = (L.take j).filter (fun x => !p x) ++ (if p (eat L j) then [] else [eat L j]) := by
  rw [← take_snoc hj, List.filter_append]
  congr 1
  cases h : p (eat L j) <;> simp [h]
/-- Where DeleteFunc stands at the head of its loop: D in the row, i kept, j looked at. -/
structure DfI (p : En → Bool) (L D : List En) (i j : Nat) : Prop where
  len : D.length = L.length
  lt : i < j
  le : j ≤ L.length
  front : D.take i = (L.take j).filter fun x => !p x
  back : ∀ m, j ≤ m → eat D m = eat L m
theorem DfI.start {p : En → Bool} {L : List En} {k : Nat} (hk : k < L.length) (h : NoTo p L k) (e : p (eat L k) = true) : DfI p L L k (k + 1) :=
  ⟨rfl, by omega, by omega, by rw [filter_step hk, filter_no (by omega) h, e]; simp, fun m _ => rfl⟩
theorem DfI.skip {p : En → Bool} {L D : List En} {i j : Nat} (h : DfI p L D i j) (hj : j < L.length) (e : p (eat L j) = true) : DfI p L D i (j + 1) :=
  ⟨h.len, by have := h.lt; omega, by omega, by rw [filter_step hj, h.front, e]; simp, fun m hm => h.back m (by omega)⟩
theorem eat_set_ne {D : List En} {i m : Nat} {x : En} (h : m ≠ i) : eat (D.set i x) m = eat D m := by
  simp [eat, List.getD, List.getElem?_set, Ne.symm h]
theorem take_set_snoc {D : List En} {i : Nat} {x : En} (h : i < D.length) : (D.set i x).take (i + 1) = D.take i ++ [x] := by
  rw [← take_snoc (by rw [List.length_set]; exact h)]
  congr 1
  · rw [List.take_set, List.set_eq_of_length_le (by rw [List.length_take]; omega)]
  · simp [eat, List.getD, h]
theorem DfI.keep {p : En → Bool} {L D : List En} {i j : Nat} (h : DfI p L D i j) (hj : j < L.length) (e : p (eat L j) = false) : DfI p L (D.set i (eat L j)) (i + 1) (j + 1) := by
  have hlt := h.lt
  have hl := h.len
  refine ⟨by rw [List.length_set, hl], by omega, by omega, ?_, fun m hm => ?_⟩
  · rw [take_set_snoc (by omega), filter_step hj, h.front, e]; simp
  · rw [eat_set_ne (by omega)]
    exact h.back m (by omega)
theorem DfI.done {p : En → Bool} {L D : List En} {i : Nat} (h : DfI p L D i L.length) : D.take i = L.filter fun x => !p x := by
  have := h.front
  rwa [List.take_of_length_le (Nat.le_refl _)] at this
theorem Gives.later {g : FuncId} {lb : Array Value} {p : En → Bool} {w0 w : World} (h : Gives g lb p w0) (hb : Below w0.heap.size w0 w) : Gives g lb p w := fun x w' hb' => h x w' (hb.trans (hb'.mono hb.size))
/-- What DeleteFunc answers. -/
def DelPost (w0 : World) (M : List En) (e : Ending) (w' : World) : Prop := ∃ v', e = .returned v' ∧ OwnE w' w0.heap.size v' M.length M ∧ Below w0.heap.size w0 w'
theorem filter_none {p : En → Bool} {L : List En} (h : NoTo p L L.length) : (L.filter fun x => !p x) = L := by
  have := filter_no (Nat.le_refl _) h
  rwa [List.take_of_length_le (Nat.le_refl _)] at this
set_option maxHeartbeats 4000000 in
theorem delete_any (g : FuncId) (lb : Array Value) (eg : ∀ args w, (callFunc g args).run Try.prog w = .ok (.enter g args) w) (p : En → Bool) (w0 w : World) (hg : Gives g lb p w0) (hb : Below w0.heap.size w0 w) (v : Value) (n : Nat) (L : List En) (ho : OwnE w w0.heap.size v n L) (hn : n ≤ 1000000) :
    Calls Try.prog 34 #[v, .func (.func g) #[] lb] w (DelPost w0 (L.filter fun x => !p x)) := by
  obtain ⟨a, c, rfl, hE, hnc, hcm, hz, hlo⟩ := ho.ens
  have hl := ho.len
  have hix := index_any g lb eg p w (hg.later hb) a n c L hE (by omega)
  have HO := Lib.hid ho
  have HB := Lib.hid hb
  have HG := Lib.hid hg
  clear ho hb hE hlo hg hz
  go_enter Try.func34, Try.ntmps34
  go_wp2_with (fail)
  refine hix.mono ?_
  rintro e w1 ⟨r, rfl, hr, hb1⟩
  have HB1 := Lib.hid (HB.out.trans (hb1.mono HB.out.size))
  have HO1 := Lib.hid (HO.out.next hb1)
  clear hb1 hix
  rcases hr with ⟨rfl, hno⟩ | ⟨k, hk, rfl, hno, hyes⟩
  · have HN := Lib.hid (filter_none hno)
    clear hno
    go_wp2_with (fail)
    go_ret
    exact ⟨_, rfl, by rw [HN.out, hl]; exact HO1.out, HB1.out⟩
  have HI := Lib.hid (DfI.start hk hno hyes)
  have hkn : k < n := by omega
  obtain ⟨gb, c', cur0, hv, _⟩ := HO1.out.row (by omega)
  cases hv
  have w1' : IntKind.i64.wrap ((k : Int) + 1) = ((k + 1 : Nat) : Int) := (IntWalk.i64_in _ (by omega)).trans (by omega)
  have k0 : ((k : Int) == -1) = false := beq_eq_false_iff_ne.2 (by omega)
  clear hno hyes
  go_wp2_with (fail)
  go_loopw [5, 6, 7] (fun v5 v6 _ wr => ∃ (i j : Nat) (D : List En), v5 = .int .i64 i ∧ v6 = .int .i64 j ∧ DfI p L D i j ∧ OwnE wr w0.heap.size (.slice (some ⟨gb, 0, none⟩) n c) n D ∧ Below w0.heap.size w0 wr) (fun _ v _ _ => n - (RowKit.intOf v).toNat)
  case atStart => exact ⟨k, k + 1, L, rfl, by go_num, HI.out, HO1.out, HB1.out⟩
  case round =>
    obtain ⟨i, j, D, rfl, rfl, hI, hO, hB⟩ := hrel
    have HI2 := Lib.hid hI
    have HO2 := Lib.hid hO
    have HB2 := Lib.hid hB
    have hij := hI.lt
    have hjl := hI.le
    obtain ⟨_, _, cur, hq, hrow, hBg, _, hcm2, hcl, hct⟩ := hO.row (by omega)
    cases hq
    have j0 : (0 : Int) ≤ (j : Int) := by omega
    have i0 : (0 : Int) ≤ (i : Int) := by omega
    have i1 : (i : Int) < (n : Int) := by omega
    have HR := Lib.hid (And.intro hrow (And.intro hBg (And.intro hcm2 (And.intro hcl hct))))
    by_cases hlt : j < n
    · have j1 : (j : Int) < (n : Int) := by omega
      have hjr := hO.ens
      obtain ⟨_, _, hq, hEj, _⟩ := hjr
      cases hq
      obtain ⟨b', off', e', hbl, hd1, hd2⟩ := hEj.at hlt
      cases e'
      rw [hI.back j (Nat.le_refl _), Nat.zero_add] at hd1 hd2
      have hbA : Below w0.heap.size w0 (wr.alloc (.cells #[.string (eat L j).s, .int .i64 (eat L j).i] 36 (0, 0))) := hB.alloc hB.size _
      have hcall := HG.out (eat L j) _ hbA
      unfold env at hcall
      have hgl := hrow.lt
      have HGL := Lib.hid (And.intro hgl hB.size)
      clear hI hO hB hrow hBg hcl hct hEj hbl hbA hgl
      cases hq : p (eat L j) with
      | true =>
        rw [hq] at hcall
        go_wp2_with (go_at_fn g; refine hcall.mono ?_; rintro e w2 ⟨rfl, hb2⟩)
        have hb3 : Below wr.heap.size wr w2 := ((Below.refl wr.heap.size wr).alloc (Nat.le_refl _) _).trans (hb2.mono (by simp))
        have HO3 := Lib.hid (HO2.out.next hb3)
        have HB3 := Lib.hid (HB2.out.trans (hb3.mono HB2.out.size))
        clear hb2 hb3 hcall
        go_wp2_with (fail)
        go_roundw
        case rel => exact ⟨i, j + 1, D, rfl, by go_num, HI2.out.skip (by omega) hq, HO3.out, HB3.out⟩
        case measure => simp [RowKit.intOf]; omega
      | false =>
        rw [hq] at hcall
        go_wp2_with
          (go_at_fn g
           refine hcall.mono ?_
           rintro e w2 ⟨rfl, hb2⟩
           have hb3 : Below wr.heap.size wr w2 := ((Below.refl wr.heap.size wr).alloc (Nat.le_refl _) _).trans (hb2.mono (by simp))
           have c0 := hb2.cell (p := ⟨wr.heap.size, 0, none⟩) (by simp)
           have c1 := hb2.cell (p := ⟨wr.heap.size, 1, none⟩) (by simp)
           rw [show (wr.alloc (.cells #[.string (eat L j).s, .int .i64 (eat L j).i] 36 (0, 0))).cell? ⟨wr.heap.size, 0, none⟩ = some (.string (eat L j).s) by simp] at c0
           rw [show (wr.alloc (.cells #[.string (eat L j).s, .int .i64 (eat L j).i] 36 (0, 0))).cell? ⟨wr.heap.size, 1, none⟩ = some (.int .i64 (eat L j).i) by simp] at c1
           have hr2 := HR.out.1.below hb3 HGL.out.1
           have e1 := hr2.cell (j := i * 2) (List.getElem?_eq_getElem (by have := HR.out.2; omega))
           have e2 := hr2.cell (j := i * 2 + 1) (List.getElem?_eq_getElem (by have := HR.out.2; omega))
           have g1 := frozen_of_row _ gb (i * 2) _ _ hr2
           have g2 := frozen_of_row _ gb (i * 2 + 1) _ _ hr2
           generalize cur[i * 2]'(by have := HR.out.2; omega) = z1 at e1
           generalize cur[i * 2 + 1]'(by have := HR.out.2; omega) = z2 at e2
           have hin : i < n := by omega
           have HO3 := Lib.hid ((HO2.out.next hb3).set hin (eat L j))
           have HB3 := Lib.hid (Below.set2 (p := i * 2) (q := i * 2 + 1) (u := .string (eat L j).s) (v := .int .i64 (eat L j).i) (HB2.out.trans (hb3.mono HB2.out.size)) HR.out.2.1)
           clear hb2 hb3 hcall hr2)
        go_roundw
        case rel => exact ⟨i + 1, j + 1, D.set i (eat L j), by go_num, by go_num, HI2.out.keep (by omega) hq, HO3.out, HB3.out⟩
        case measure => simp [RowKit.intOf]; omega
    · obtain rfl : j = n := by omega
      have j1 : ¬ (j : Int) < (j : Int) := by omega
      have hcl' := fun ty => run_clearE wr ty gb (i * 2) (j - i) (c - i) cur hrow (by omega) (by omega)
      have hci : ¬ (c = i) := by omega
      have i2 : (i : Int) ≤ (j : Int) := by omega
      have i3 : (i : Int) ≤ (c : Int) := by omega
      have hD := hI
      rw [← hl] at hD
      have hdone := hD.done
      have HDn := Lib.hid hdone
      have hlay := laid_copy (o := i * 2) (cs := zerE (j - i)) hrow
      have HL := Lib.hid hlay
      have hct2 : cur.take (i * 2) = (D.take i).flatMap ecl := row_front hct (by omega)
      have HX := Lib.hid (And.intro hct2 (And.intro (show i * 2 + (zerE (j - i)).length ≤ cur.length by rw [zerE_len]; omega) hI.len))
      have hin : i ≤ j := by omega
      clear hI hO hB hrow hBg hcl hct hD hdone hlay hct2
      go_wp2_with (fail)
      go_ret
      have hlen : (D.take i).length = i := by have := HX.out.2.2; rw [List.length_take]; omega
      have hown := HL.out.row.own (B := w0.heap.size) (n := i) (c := c) (L := D.take i) HR.out.2.1 (by omega) HR.out.2.2.1 (by rw [sp_len HX.out.2.1]; exact HR.out.2.2.2.1) hlen (by rw [sp_low (by have := HX.out.2.1; omega) (Nat.le_refl _)]; exact HX.out.1)
      refine ⟨_, rfl, ?_, HL.out.bel _ _ HR.out.2.1 HB2.out⟩
      rw [← HDn.out, hlen]
      exact hown
end Go.Proofs.Ytiedapiepklhlaa
