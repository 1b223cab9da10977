import Derived.Test.YtinholnidchblaaGreatDoorQad
import Derived.Test.YtinholnidchblaaGreatDoorQaa
import Derived.Test.YtinholnidchblaaGreatDoorQab
import Derived.Lib.AppendStr
import Derived.Deep.AppendLies
import Derived.Test.YtinholnidchblaaGreatDoorQaf
set_option linter.unusedVariables false
set_option linter.unusedSimpArgs false
set_option maxRecDepth 100000
set_option maxHeartbeats 16000000
namespace Go.Proofs.YtinholnidchblaaGreatDoor
open Go.RowKit
def zerE (k : Nat) : List Value := (Builtin.zeroCells (Value.agg #[.string ByteArray.empty, .int .i64 0]).cells k).toList
theorem zerE_len (k : Nat) : (zerE k).length = k * 2 := by
 unfold zerE
 rw [Array.length_toList]
 exact size_zeroCells _ k
theorem zerE_one (k : Nat) : ∀ v ∈ zerE k, v.oneCell' = true := by
 intro v hv
 unfold zerE Builtin.zeroCells at hv
 rw [Array.toList_map] at hv
 obtain ⟨m, _, rfl⟩ := List.mem_map.1 hv
 have hs : (Value.agg #[.string ByteArray.empty, .int .i64 0]).cells.size = 2 := rfl
 rw [hs]
 rcases (by omega : m % 2 = 0 ∨ m % 2 = 1) with e | e <;> rw [e] <;> rfl
theorem run_clearE (w : World) (ty : TypeId) (g o k cc : Nat) (cur : List Value) (hg : RowE w g cur) (hk : 0 < k) (hfit : o + k * 2 ≤ cur.length) :
  (Builtin.clear_ #[52] ty #[.slice (some ⟨g, o, none⟩) k cc]).run Tryz.prog w = .ok (.tuple #[]) (w.setRow g (splice cur o (zerE k)).toArray) := by
 obtain ⟨i0, hi, hz0, hz1, hz2⟩ := info_parts infoE
 have hst := run_storeCells_at Tryz.prog g o _ (zerE k) 0 cur.toArray w hg (by simpa [zerE_len] using hfit) (zerE_one k)
 have hzv : (zeroValue 77).run Tryz.prog w = .ok (.agg #[.string ByteArray.empty, .int .i64 0]) w := by simp [zeroValue, typeInfo, hi, hz0]
 obtain ⟨m, rfl⟩ : ∃ m, k = m + 1 := ⟨k - 1, by omega⟩
 have hst' : (storeCells ⟨g, o, none⟩ (Builtin.zeroCells (Value.agg #[.string ByteArray.empty, .int .i64 0]).cells (m + 1)).toList).run Tryz.prog w = .ok () (w.setRow g (splice cur o (zerE (m + 1))).toArray) := by
  have e : splice cur o (zerE (m + 1)) = cur.take o ++ zerE (m + 1) ++ cur.drop (o + (zerE (m + 1)).length) := by unfold splice; rw [List.append_assoc]
  rw [e]
  show Sem.run Tryz.prog (storeCells ⟨g, o, none⟩ (zerE (m + 1))) w = _
  simpa using hst
 simp only [Builtin.clear_, Sem.run_bind, run_underlying Tryz.underlying52, Result.andThen_ok, hzv, hst', Sem.run_pure]
 simp [hzv, hst', Result.andThen]
theorem filter_no {p : En → Bool} {L : List En} {k : Nat} (hk : k ≤ L.length) (h : NoTo p L k) : (L.take k).filter (fun x => !p x) = L.take k := by
 rw [List.filter_eq_self]
 intro x hx
 obtain ⟨i, hi, rfl⟩ := List.getElem_of_mem hx
 have hi2 : i < k := by rw [List.length_take] at hi; omega
 have e : (L.take k)[i] = eat L i := by
  rw [List.getElem_take]
  simp [eat, List.getD, show i < L.length by omega]
 rw [e, h i hi2]
 rfl
theorem filter_step {p : En → Bool} {L : List En} {j : Nat} (hj : j < L.length) : (L.take (j + 1)).filter (fun x => !p x) = (L.take j).filter (fun x => !p x) ++ (if p (eat L j) then [] else [eat L j]) := by
 rw [← take_snoc hj, List.filter_append]
 congr 1
 cases h : p (eat L j) <;> simp [h]
structure DfI (p : En → Bool) (L D : List En) (i j : Nat) : Prop where
 len : D.length = L.length
 lt : i < j
 le : j ≤ L.length
 front : D.take i = (L.take j).filter fun x => !p x
 back : ∀ m, j ≤ m → eat D m = eat L m
theorem DfI.start {p : En → Bool} {L : List En} {k : Nat} (hk : k < L.length) (h : NoTo p L k) (e : p (eat L k) = true) : DfI p L L k (k + 1) :=
 ⟨rfl, by omega, by omega, by rw [filter_step hk, filter_no (by omega) h, e]; simp, fun m _ => rfl⟩
theorem DfI.skip {p : En → Bool} {L D : List En} {i j : Nat} (h : DfI p L D i j) (hj : j < L.length) (e : p (eat L j) = true) : DfI p L D i (j + 1) :=
 ⟨h.len, by have := h.lt; omega, by omega, by rw [filter_step hj, h.front, e]; simp, fun m hm => h.back m (by omega)⟩
theorem eat_set_ne {D : List En} {i m : Nat} {x : En} (h : m ≠ i) : eat (D.set i x) m = eat D m := by
 simp [eat, List.getD, List.getElem?_set, Ne.symm h]
theorem take_set_snoc {D : List En} {i : Nat} {x : En} (h : i < D.length) : (D.set i x).take (i + 1) = D.take i ++ [x] := by
 rw [← take_snoc (by rw [List.length_set]; exact h)]
 congr 1
 ·rw [List.take_set, List.set_eq_of_length_le (by rw [List.length_take]; omega)]
 ·simp [eat, List.getD, h]
theorem DfI.keep {p : En → Bool} {L D : List En} {i j : Nat} (h : DfI p L D i j) (hj : j < L.length) (e : p (eat L j) = false) : DfI p L (D.set i (eat L j)) (i + 1) (j + 1) := by
 have hlt := h.lt
 have hl := h.len
 refine ⟨by rw [List.length_set, hl], by omega, by omega, ?_, fun m hm => ?_⟩
 ·rw [take_set_snoc (by omega), filter_step hj, h.front, e]; simp
 ·rw [eat_set_ne (by omega)]
  exact h.back m (by omega)
theorem DfI.done {p : En → Bool} {L D : List En} {i : Nat} (h : DfI p L D i L.length) : D.take i = L.filter fun x => !p x := by
 have := h.front
 rwa [List.take_of_length_le (Nat.le_refl _)] at this
theorem Gives.later {g : FuncId} {lb : Array Value} {p : En → Bool} {w0 w : World} (h : Gives g lb p w0) (hb : Below w0.heap.size w0 w) : Gives g lb p w := fun x w' hb' => h x w' (hb.trans (hb'.mono hb.size))
def DelPost (w0 : World) (M : List En) (e : Ending) (w' : World) : Prop := ∃ v', e = .returned v' ∧ OwnE w' w0.heap.size v' M.length M ∧ Below w0.heap.size w0 w'
theorem filter_none {p : En → Bool} {L : List En} (h : NoTo p L L.length) : (L.filter fun x => !p x) = L := by
 have := filter_no (Nat.le_refl _) h
 rwa [List.take_of_length_le (Nat.le_refl _)] at this
theorem delete_any (g : FuncId) (lb : Array Value) (eg : ∀ args w, (callFunc g args).run Tryz.prog w = .ok (.enter g args) w) (p : En → Bool) (w0 w : World) (hg : Gives g lb p w0) (hb : Below w0.heap.size w0 w) (v : Value) (n : Nat) (L : List En) (ho : OwnE w w0.heap.size v n L) (hn : n ≤ 1000000) :
  Calls Tryz.prog 148 #[v, .func (.func g) #[] lb] w (DelPost w0 (L.filter fun x => !p x)) := by
 obtain ⟨a, c, rfl, hE, hnc, hcm, hz, hlo⟩ := ho.ens
 have hl := ho.len
 have hix := index_any g lb eg p w (hg.later hb) a n c L hE (by omega)
 have HO := qH ho
 have HB := qH hb
 have HG := qH hg
 clear ho hb hE hlo hg hz
 go_enter Tryz.func148, Tryz.ntmps148
 go_wp2_with fail
 refine hix.mono ?_
 rintro e w1 ⟨r, rfl, hr, hb1⟩
 have HB1 := qH (HB.out.trans (hb1.mono HB.out.size))
 have HO1 := qH (HO.out.next hb1)
 clear hb1 hix
 rcases hr with ⟨rfl, hno⟩ | ⟨k, hk, rfl, hno, hyes⟩
 ·have HN := qH (filter_none hno)
  clear hno
  go_wp2_with fail
  go_ret
  exact ⟨_, rfl, by rw [HN.out, hl]; exact HO1.out, HB1.out⟩
 have HI := qH (DfI.start hk hno hyes)
 have hkn : k < n := by omega
 obtain ⟨gb, c', cur0, hv, _⟩ := HO1.out.row (by omega)
 cases hv
 have w1' : IntKind.i64.wrap ((k : Int) + 1) = ((k + 1 : Nat) : Int) := (IntWalk.i64_in _ (by omega)).trans (by omega)
 have k0 : ((k : Int) == -1) = false := beq_eq_false_iff_ne.2 (by omega)
 clear hno hyes
 go_wp2_with fail
 go_loopw [5, 6, 7] (fun v5 v6 _ wr => ∃ (i j : Nat) (D : List En), v5 = .int .i64 i ∧ v6 = .int .i64 j ∧ DfI p L D i j ∧ OwnE wr w0.heap.size (.slice (some ⟨gb, 0, none⟩) n c) n D ∧ Below w0.heap.size w0 wr) (fun _ v _ _ => n - (RowKit.intOf v).toNat)
 case atStart => exact ⟨k, k + 1, L, rfl, by go_num, HI.out, HO1.out, HB1.out⟩
 case round =>
  obtain ⟨i, j, D, rfl, rfl, hI, hO, hB⟩ := hrel
  have HI2 := qH hI
  have HO2 := qH hO
  have HB2 := qH hB
  have hij := hI.lt
  have hjl := hI.le
  obtain ⟨_, _, cur, hq, hrow, hBg, _, hcm2, hcl, hct⟩ := hO.row (by omega)
  cases hq
  have j0 : (0 : Int) ≤ (j : Int) := by omega
  have i0 : (0 : Int) ≤ (i : Int) := by omega
  have i1 : (i : Int) < (n : Int) := by omega
  have HR := qH (And.intro hrow (And.intro hBg (And.intro hcm2 (And.intro hcl hct))))
  by_cases hlt : j < n
  ·have j1 : (j : Int) < (n : Int) := by omega
   have hjr := hO.ens; obtain ⟨_, _, hq, hEj, _⟩ := hjr
   cases hq
   obtain ⟨b', off', e', hbl, hd1, hd2⟩ := hEj.at hlt
   cases e'
   rw [hI.back j (Nat.le_refl _), Nat.zero_add] at hd1 hd2; have hbA : Below w0.heap.size w0 (wr.alloc (.cells #[.string (eat L j).s, .int .i64 (eat L j).i] 77 (0, 0))) := hB.alloc hB.size _; have hcall := HG.out (eat L j) _ hbA; unfold env at hcall; have hgl := hrow.lt; have HGL := qH (And.intro hgl hB.size); clear hI hO hB hrow hBg hcl hct hEj hbl hbA hgl
   cases hq : p (eat L j) with
   | true =>
    rw [hq] at hcall
    go_wp2_with (go_at_fn g; refine hcall.mono ?_; rintro e w2 ⟨rfl, hb2⟩)
    have hb3 : Below wr.heap.size wr w2 := ((Below.refl wr.heap.size wr).alloc (Nat.le_refl _) _).trans (hb2.mono (by simp)); have HO3 := qH (HO2.out.next hb3); have HB3 := qH (HB2.out.trans (hb3.mono HB2.out.size)); clear hb2 hb3 hcall; go_wp2_with fail
    go_roundw
    case rel => exact ⟨i, j + 1, D, rfl, by go_num, HI2.out.skip (by omega) hq, HO3.out, HB3.out⟩
    case measure => simp [RowKit.intOf]; omega
   | false =>
    rw [hq] at hcall
    go_wp2_with
     (go_at_fn g
      refine hcall.mono ?_; rintro e w2 ⟨rfl, hb2⟩; have hb3 : Below wr.heap.size wr w2 := ((Below.refl wr.heap.size wr).alloc (Nat.le_refl _) _).trans (hb2.mono (by simp)); have c0 := hb2.cell (p := ⟨wr.heap.size, 0, none⟩) (by simp); have c1 := hb2.cell (p := ⟨wr.heap.size, 1, none⟩) (by simp); rw [show (wr.alloc (.cells #[.string (eat L j).s, .int .i64 (eat L j).i] 77 (0, 0))).cell? ⟨wr.heap.size, 0, none⟩ = some (.string (eat L j).s) by simp] at c0; rw [show (wr.alloc (.cells #[.string (eat L j).s, .int .i64 (eat L j).i] 77 (0, 0))).cell? ⟨wr.heap.size, 1, none⟩ = some (.int .i64 (eat L j).i) by simp] at c1; have hr2 := HR.out.1.below hb3 HGL.out.1; have e1 := hr2.cell (j := i * 2) (List.getElem?_eq_getElem (by have := HR.out.2; omega)); have e2 := hr2.cell (j := i * 2 + 1) (List.getElem?_eq_getElem (by have := HR.out.2; omega)); have g1 := frozen_of_row _ gb (i * 2) _ _ hr2; have g2 := frozen_of_row _ gb (i * 2 + 1) _ _ hr2
      generalize cur[i * 2]'(by have := HR.out.2; omega) = z1 at e1
      generalize cur[i * 2 + 1]'(by have := HR.out.2; omega) = z2 at e2
      have hin : i < n := by omega
      have HO3 := qH ((HO2.out.next hb3).set hin (eat L j)); have HB3 := qH (Below.set2 (p := i * 2) (q := i * 2 + 1) (u := .string (eat L j).s) (v := .int .i64 (eat L j).i) (HB2.out.trans (hb3.mono HB2.out.size)) HR.out.2.1)
      clear hb2 hb3 hcall hr2)
    go_roundw
    case rel => exact ⟨i + 1, j + 1, D.set i (eat L j), by go_num, by go_num, HI2.out.keep (by omega) hq, HO3.out, HB3.out⟩
    case measure => simp [RowKit.intOf]; omega
  ·obtain rfl : j = n := by omega
   have j1 : ¬ (j : Int) < (j : Int) := by omega
   have hcl' := fun ty => run_clearE wr ty gb (i * 2) (j - i) (c - i) cur hrow (by omega) (by omega)
   have hci : ¬ (c = i) := by omega
   have i2 : (i : Int) ≤ (j : Int) := by omega
   have i3 : (i : Int) ≤ (c : Int) := by omega
   have hD := hI; rw [← hl] at hD; have hdone := hD.done; have HDn := qH hdone; have hlay := laid_copy (o := i * 2) (cs := zerE (j - i)) hrow; have HL := qH hlay; have hct2 : cur.take (i * 2) = (D.take i).flatMap ecl := row_front hct (by omega); have HX := qH (And.intro hct2 (And.intro (show i * 2 + (zerE (j - i)).length ≤ cur.length by rw [zerE_len]; omega) hI.len))
   have hin : i ≤ j := by omega
   clear hI hO hB hrow hBg hcl hct hD hdone hlay hct2; go_wp2_with fail; go_ret
   have hlen : (D.take i).length = i := by have := HX.out.2.2; rw [List.length_take]; omega
   have hown := HL.out.row.own (B := w0.heap.size) (n := i) (c := c) (L := D.take i) HR.out.2.1 (by omega) HR.out.2.2.1 (by rw [sp_len HX.out.2.1]; exact HR.out.2.2.2.1) hlen (by rw [sp_low (by have := HX.out.2.1; omega) (Nat.le_refl _)]; exact HX.out.1); refine ⟨_, rfl, ?_, HL.out.bel _ _ HR.out.2.1 HB2.out⟩; rw [← HDn.out, hlen]
   exact hown
theorem enters_cut (args : Array Value) (w : World) : (callFunc 149 args).run Tryz.prog w = .ok (.enter 149 args) w := enters_of (P := Tryz.prog) Tryz.func149 (by kernel_rfl) rfl args w
theorem gives_cut (b : Nat) (n : ByteArray) (w0 : World) (hlt : b < w0.heap.size) (hc : w0.cell? ⟨b, 0, none⟩ = some (.string n)) : Gives 149 #[.pointer (some ⟨b, 0, none⟩)] (fun x => beqS x.s n) w0 := by
 intro x w hb
 obtain ⟨s, i⟩ := x
 have c1 := (hb.cell (p := ⟨b, 0, none⟩) hlt).trans hc
 have hbs := hb.size
 have hb2 : b < w.heap.size := by omega
 have HB := qH ((Below.refl w.heap.size w).alloc (Nat.le_refl _) (.cells #[.string s, .int .i64 i] 77 (0, 0)))
 unfold env
 simp only
 show Calls Tryz.prog 149 #[.agg #[.string s, .int .i64 i], .pointer (some ⟨b, 0, none⟩)] w _
 clear hb hc hlt hbs
 go_enter Tryz.func149, Tryz.ntmps149
 go_wp2_with fail
 go_ret
 exact ⟨rfl, HB.out⟩
theorem cut_any (a : Option Addr) (n c : Nat) (L : List En) (s : ByteArray) (w : World) (h : Ens w a n L) (hn : n ≤ 100000) (hs : Fit L) :
  Calls Tryz.prog 131 #[.slice a n c, .string s] w (InsPost w.heap.size w (ecut L s).length (ecut L s)) := by
 have hb0 : Below w.heap.size w (w.alloc (.cells #[.string s] 9 (0, 0))) := (Below.refl _ _).alloc (Nat.le_refl _) _
 have hcp := copies_any a n c L (w.alloc (.cells #[.string s] 9 (0, 0))) (h.next hb0) (by omega) hs
 have HG := qH (gives_cut w.heap.size s (w.alloc (.cells #[.string s] 9 (0, 0))) (by simp) (by simp))
 have HB := qH hb0
 clear h hb0
 go_enter Tryz.func131, Tryz.ntmps131
 go_wp2_with fail
 refine hcp.mono ?_
 rintro e w1 ⟨v, rfl, ho, hb1⟩
 have hdel := delete_any _ #[.pointer (some ⟨w.heap.size, 0, none⟩)] enters_cut _ _ w1 HG.out hb1 v n L ho (by omega)
 clear ho hb1 hcp
 go_wp2_with fail
 refine hdel.mono ?_
 rintro e w2 ⟨v2, rfl, ho2, hb2⟩
 have HO2 := qH (ho2.lower HB.out.size)
 have HB2 := qH (HB.out.trans (hb2.mono HB.out.size))
 clear ho2 hb2 hdel
 go_wp2_with fail
 go_ret
 exact ⟨_, rfl, HO2.out, HB2.out⟩
theorem cut_step {L : List En} {k : Nat} {s : ByteArray} (hk : k < L.length) : ecut (L.take (k + 1)) s = ecut (L.take k) s ++ (if beqS (eat L k).s s then [] else [eat L k]) := filter_step (p := fun x => beqS x.s s) hk
theorem ecut_le (L : List En) (s : ByteArray) : (ecut L s).length ≤ L.length := List.length_filter_le _ _
theorem rcut_any (a : Option Addr) (n c : Nat) (L : List En) (s : ByteArray) (w : World) (h : Ens w a n L) (hn : n ≤ 100000) :
  Calls Tryz.prog 135 #[.slice a n c, .string s] w (InsPost w.heap.size w (ecut L s).length (ecut L s)) := by
 have hl := h.len
 subst hl
 have HH := qH h
 clear h
 go_enter Tryz.func135, Tryz.ntmps135
 go_wp2_with fail
 go_loopw [5, 6] (fun v5 v wr => ∃ k : Nat, k ≤ L.length ∧ v = .int .i64 k ∧ OwnE wr w.heap.size v5 (ecut (L.take k) s).length (ecut (L.take k) s) ∧ Below w.heap.size w wr) (fun _ v _ => L.length - (RowKit.intOf v).toNat)
 case atStart => exact ⟨0, by omega, rfl, ownE_none w _ (Nat.le_refl _), (Below.refl _ _).alloc (Nat.le_refl _) _⟩
 case round =>
  obtain ⟨k, hk, rfl, hO, hB⟩ := hrel
  have HO := qH hO
  have HB := qH hB
  by_cases hlt : k < L.length
  ·have k1 : (k : Int) < (L.length : Int) := by omega
   have k0 : (0 : Int) ≤ (k : Int) := by omega
   obtain ⟨b, off, rfl, hbl, hd1, hd2⟩ := (HH.out.next hB).at hlt; have hst := cut_step (s := s) hlt; obtain ⟨va, vc, rfl, _⟩ := hO.ens; clear hO hB hbl
   cases hb : ((eat L k).s.toList == s.toList) with
   | true =>
    have hb' : beqS (eat L k).s s = true := hb; rw [hb', if_pos rfl, List.append_nil] at hst; have HST := qH hst
    have hb2 : ((eat L k).s.toList != s.toList) = false := by rw [bne, hb]; rfl
    clear hst hb'; go_wp2_with fail
    go_roundw
    case rel => exact ⟨k + 1, by omega, by go_num, by rw [HST.out]; exact HO.out, HB.out⟩
    case measure => simp [RowKit.intOf]; omega
   | false =>
    have hb' : beqS (eat L k).s s = false := hb; rw [hb', if_neg (by decide)] at hst; have HST := qH hst
    have hb2 : ((eat L k).s.toList != s.toList) = true := by rw [bne, hb]; rfl
    have HO1 := qH (HO.out.alloc (.cells #[.string (eat L k).s, .int .i64 (eat L k).i] 77 (0, 0))); have HB1 := qH (HB.out.alloc HB.out.size (.cells #[.string (eat L k).s, .int .i64 (eat L k).i] 77 (0, 0))); have HM := qH (ens_one (w := wr) (g := wr.heap.size) (eat L k).s (eat L k).i rfl); have hsz := HB.out.size; have hle := Nat.le_trans (ecut_le (L.take k) s) (by rw [List.length_take]; omega : (L.take k).length ≤ 100000); clear hst hb'
    go_wp2_with (at_builtin; go_must (refine wpList_ape rfl (.tmp 21) (.tmp 26) rfl w.heap.size _ (ecut (L.take k) s).length (ecut (L.take k) s) rfl HO1.out (some ⟨wr.heap.size, 0, none⟩) 1 1 [eat L k] rfl HM.out (fun h => by cases h) (by omega) (by simp; omega) w HB1.out ?_); intro v4 w4 ho4 hb4)
    have HO4 := qH ho4; have HB4 := qH hb4; clear ho4 hb4
    go_roundw
    case rel => exact ⟨k + 1, by omega, by go_num, by rw [HST.out, List.length_append]; exact HO4.out, HB4.out⟩
    case measure => simp [RowKit.intOf]; omega
  ·obtain rfl : k = L.length := by omega
   have k1 : ¬ (L.length : Int) < (L.length : Int) := by omega
   rw [List.take_of_length_le (Nat.le_refl _)] at hO; have HO2 := qH hO; clear hO hB; go_wp2_with fail; go_ret
   exact ⟨_, rfl, HO2.out, HB.out⟩
def digs : Nat → Int → List Int
 | 0, _ => []
 | m + 1, n => n % 256 :: digs m (n / 256)
theorem digs_len (m : Nat) (n : Int) : (digs m n).length = m := by
 induction m generalizing n with
 | zero => rfl
 | succ m ih => simp [digs, ih]
theorem byt_digs (m : Nat) (n : Int) (i : Nat) (h : i < m) : byt (digs m n) i = n / 256 ^ i % 256 := by
 induction m generalizing n i with
 | zero => omega
 | succ m ih =>
  cases i with
  | zero => simp [digs, byt]
  | succ i =>
   have := ih (n / 256) i (by omega); rw [show byt (digs (m + 1) n) (i + 1) = byt (digs m (n / 256)) i from rfl, this, Int.pow_succ', Int.ediv_ediv_of_nonneg (by omega)]
theorem dig_at {m k : Nat} (n : Int) (h : k < m) : n / 2 ^ (8 * k) % 256 = byt (digs m n) k := by
 rw [byt_digs m n k h, Int.pow_mul]
 rfl
def isW (n : Int) : Bool := decide (1 ≤ n ∧ n ≤ 4)
theorem isW_true {n : Int} (h : 1 ≤ n ∧ n ≤ 4) : isW n = true := by simp [isW, h]
theorem isW_false {n : Int} (h : ¬ (1 ≤ n ∧ n ≤ 4)) : isW n = false := by simp only [isW, decide_eq_false_iff_not]; exact h
def hasW (n k : Int) : Bool := decide (0 ≤ n ∧ n < 2 ^ (8 * k).toNat)
theorem lim_wrap {k : Int} (h1 : 1 ≤ k) (h4 : k ≤ 4) : wrap64 (2 ^ (8 * k).toNat) = 2 ^ (8 * k).toNat := by
 rcases (by omega : k = 1 ∨ k = 2 ∨ k = 3 ∨ k = 4) with rfl | rfl | rfl | rfl <;> simp [wrap64]
theorem lim_le {k : Int} (h1 : 1 ≤ k) (h4 : k ≤ 4) : (2 : Int) ^ (8 * k).toNat ≤ 4294967296 := by
 rcases (by omega : k = 1 ∨ k = 2 ∨ k = 3 ∨ k = 4) with rfl | rfl | rfl | rfl <;> decide
theorem hasW_lt {n k : Int} (h0 : 0 ≤ n) (h1 : 1 ≤ k) (h4 : k ≤ 4) : decide (n < wrap64 (2 ^ (8 * k).toNat)) = hasW n k := by
 rw [lim_wrap h1 h4]; simp [hasW, h0]
theorem hasW_bd {n k : Int} (h : hasW n k = true) (h1 : 1 ≤ k) (h4 : k ≤ 4) : 0 ≤ n ∧ n < 4294967296 := by
 have := lim_le h1 h4
 simp only [hasW, decide_eq_true_eq] at h
 omega
theorem isWidth_any (n : Int) (w : World) : Calls Tryz.prog 152 #[.int .i64 n] w fun e w' => e = .returned (.bool (isW n)) ∧ w = w' := by
 by_cases h1 : 1 ≤ n
 ·by_cases h4 : n ≤ 4
  ·have hs : Hid (isW n = true) := isW_true ⟨h1, h4⟩
   go_enter Tryz.func152, Tryz.ntmps152
   go_wp2
   go_ret
   exact ⟨ret_bool hs.out.symm, rfl⟩
  ·have hs : Hid (isW n = false) := isW_false (by omega)
   go_enter Tryz.func152, Tryz.ntmps152
   go_wp2
   go_ret
   exact ⟨ret_bool hs.out.symm, rfl⟩
 ·have hs : Hid (isW n = false) := isW_false (by omega)
  go_enter Tryz.func152, Tryz.ntmps152
  go_wp2
  go_ret
  exact ⟨ret_bool hs.out.symm, rfl⟩
theorem hasWidth_any (n k : Int) (w : World) (h1 : 1 ≤ k) (h4 : k ≤ 4) : Calls Tryz.prog 153 #[.int .i64 n, .int .i64 k] w fun e w' => e = .returned (.bool (hasW n k)) ∧ w = w' := by
 by_cases h0 : 0 ≤ n
 ·go_enter Tryz.func153, Tryz.ntmps153
  go_wp2
  go_ret
  exact ⟨ret_bool (hasW_lt h0 h1 h4), rfl⟩
 ·have hs : Hid (hasW n k = false) := by show _ = _; simp only [hasW, decide_eq_false_iff_not]; omega
  go_enter Tryz.func153, Tryz.ntmps153
  go_wp2
  go_ret
  exact ⟨ret_bool hs.out.symm, rfl⟩
theorem put_yes (m : Nat) (n : Int) (w : World) (h1 : 1 ≤ m) (h4 : m ≤ 4) (hw : hasW n m = true) :
  Calls Tryz.prog 137 #[.int .i64 m, .int .i64 n] w fun e w' => e = .returned (.slice (some ⟨w.heap.size, 0, none⟩) m m) ∧ Blk w' w.heap.size (digs m n) ∧ Below w.heap.size w w' := by
 have hi : Hid (isW m = true) := isW_true (by omega)
 obtain ⟨hn0, hn1⟩ := hasW_bd hw (by omega) (by omega)
 have hh : Hid (hasW n m = true) := hw
 clear hw
 go_enter Tryz.func137, Tryz.ntmps137
 go_wp2_with (first
  | (go_at_call 152; refine (isWidth_any _ _).mono ?_; rintro e w' ⟨rfl, rfl⟩; rw [hi.out])
  | (go_at_call 153; refine (hasWidth_any _ _ _ (by omega) (by omega)).mono ?_; rintro e w' ⟨rfl, rfl⟩; rw [hh.out])
  | (at_make; refine wpList_mk rfl _ _ rfl _ _ _ _ m rfl rfl rfl rfl (by omega) ?_; intro w1 hb1 hl1))
 go_loopw [20] (fun i wr => ∃ (k : Nat) (zs : List Int), k ≤ m ∧ i = .int .i64 k ∧ Blk wr w.heap.size zs ∧ Mix zs (List.replicate m 0) (digs m n) k ∧ Below w.heap.size w wr)
  (fun i _ => m - (RowKit.intOf i).toNat)
 case atStart => exact ⟨0, _, Nat.zero_le _, rfl, hb1, Mix.start (by rw [digs_len]; simp), hl1⟩
 case round =>
  obtain ⟨k, zs, hk, rfl, hb, hmix, hl⟩ := hrel
  clear hb1 hl1
  by_cases hlt : k < m
  ·have hf := hb.free k
   have hc : wr.cell? ⟨w.heap.size, k, none⟩ = some (.int .u8 (byt zs k)) := hb.cell (by rw [hmix.len, digs_len]; exact hlt)
   go_wp2
   go_roundw
   case rel => exact ⟨k + 1, _, by omega, by go_num, hb.set k _, hmix.set (by rw [digs_len]; exact hlt) (dig_at n hlt), hl.setCell (Nat.le_refl _) _⟩
   case measure => simp [RowKit.intOf]; omega
  ·obtain rfl : k = m := by omega
   have hz : Hid (zs = digs k n) := hmix.done (fun j h h' => by rw [digs_len] at h'; omega)
   go_wp2
   go_ret
   exact ⟨rfl, by rw [← hz.out]; exact hb, hl⟩
def bI (l : List UInt8) : List Int := l.map fun b => ((b.toNat : Nat) : Int)
theorem bI_len (l : List UInt8) : (bI l).length = l.length := by simp [bI]
theorem bI_all (l : List UInt8) : AllB (bI l) := fun z hz => by
 obtain ⟨b, _, rfl⟩ := List.mem_map.1 hz
 have := b.toNat_lt
 omega
theorem str_cells (s : ByteArray) : Lib.strCells s = (bI s.data.toList).map (Value.int .u8) := by
 unfold Lib.strCells bI
 rw [List.map_map]
 rfl
def encE (e : En) : List Int := [e.i, 0, (e.s.size : Int)] ++ bI e.s.data.toList
def encL (L : List En) : List Int := L.flatMap encE
def encO (L : List En) : List Int := if rgt L then encL L else []
theorem okE_all {e : En} (h : okE e = true) : nmB e.s.data.toList = true ∧ 1 ≤ e.i ∧ e.i ≤ 56 ∧ 1 ≤ e.s.size ∧ e.s.size ≤ 12 := by
 unfold okE at h
 rw [Bool.and_eq_true, Bool.and_eq_true, decide_eq_true_eq, decide_eq_true_eq] at h
 obtain ⟨⟨h1, h2⟩, h3⟩ := h
 refine ⟨h1, h2, h3, ?_⟩
 unfold nmB at h1
 simp only [Bool.and_eq_true, decide_eq_true_eq] at h1
 have hs := Lib.size_eq e.s
 omega
theorem encE_len {e : En} : (encE e).length = 3 + e.s.size := by
 unfold encE
 rw [List.length_append, bI_len, ← Lib.size_eq]
 rfl
theorem digs2 {i : Int} (h1 : 1 ≤ i) (h2 : i ≤ 56) : digs 2 i = [i, 0] := by
 simp [digs]; omega
theorem digs1 {i : Int} (h1 : 0 ≤ i) (h2 : i ≤ 56) : digs 1 i = [i] := by
 simp [digs]; omega
theorem hasW2 {i : Int} (h1 : 1 ≤ i) (h2 : i ≤ 56) : hasW i ((2 : Nat) : Int) = true := by
 unfold hasW
 simp
 omega
theorem hasW1 {i : Int} (h1 : 0 ≤ i) (h2 : i ≤ 56) : hasW i ((1 : Nat) : Int) = true := by
 unfold hasW
 simp
 omega
theorem encL_step {L : List En} {k : Nat} (hk : k < L.length) : encL (L.take (k + 1)) = encL (L.take k) ++ encE (eat L k) := by
 rw [← take_snoc hk]
 simp [encL]
theorem encL_len {L : List En} (h : L.all okE = true) : (encL L).length ≤ L.length * 15 := by
 induction L with
 | nil => simp [encL]
 | cons x L ih =>
  rw [List.all_cons, Bool.and_eq_true] at h
  have := ih h.2
  have h2 := okE_all h.1
  have h3 := encE_len (e := x)
  simp only [encL, List.flatMap_cons, List.length_append, List.length_cons] at *
  omega
theorem all_at {L : List En} (h : L.all okE = true) {k : Nat} (hk : k < L.length) : okE (eat L k) = true := List.all_eq_true.1 h _ (eat_mem hk)
theorem all_take {L : List En} (h : L.all okE = true) (k : Nat) : (L.take k).all okE = true := by
 rw [List.all_eq_true] at *
 exact fun x hx => h x (List.mem_of_mem_take hx)
theorem own_nil8 (w : World) (B : Nat) : Own w B (.slice none 0 0) 0 [] := ⟨World.ownsRow_nil _ _ _ _, fun z hz => by cases hz⟩
def EncPost (w : World) (zs : List Int) (ok : Bool) (e : Ending) (w' : World) : Prop := ∃ v, e = .returned (.tuple #[v, .bool ok]) ∧ Own w' w.heap.size v zs.length zs ∧ Below w.heap.size w w'
theorem bys_news {w : World} {p : Addr} {m : Nat} {ys : List Int} (hy : Bys w (some p) m ys) : ∀ j u, (ys.map (Value.int .u8))[j]? = some u → w.cell? (p.add j) = some u := by
 intro j u hj
 have hjm : j < m := by
  rcases Nat.lt_or_ge j m with h | h
  ·exact h
  ·rw [List.getElem?_eq_none (by simp [hy.len]; omega)] at hj; cases hj
 have hv : u = .int .u8 (byt ys j) := by
  rw [List.getElem?_map] at hj
  have hjx : j < ys.length := by rw [hy.len]; exact hjm
  simp [List.getElem?_eq_getElem hjx] at hj
  simp [byt, List.getD, hjx, hj]
 rcases hy.place with h0 | ⟨b, off, hp, _, hcell⟩
 ·omega
 ·cases hp
  rw [hv, add_e]
  exact hcell j hjm
theorem ints_one (ys : List Int) : ∀ u ∈ ys.map (Value.int .u8), u.oneCell' = true := fun u hu => by
 obtain ⟨z, _, rfl⟩ := List.mem_map.1 hu
 rfl
theorem wpList_apk {w : World} {ops : Array Oper} {rest : List Oper} {o : Oper} {a : Act} {Q : Exit → Act → World → Prop} (hgd : o.guard = none) (s x : Operand)
  (ho : o.op = .call { callee := .builtin .append, args := #[s, x], argTypes := #[29, 29] })
  (B : Nat) (v : Value) (n : Nat) (zs : List Int) (hs : a.eval s = v) (hown : Own w B v n zs) (p : Addr) (m c : Nat) (ys : List Int) (hx : a.eval x = .slice (some p) m c) (hy : Bys w (some p) m ys) (hm : 0 < m)
  (hnm : n + m ≤ 140737488355328) (hB : B ≤ w.heap.size) (w0 : World) (hb : Below B w0 w)
  (h : ∀ g cap w', Own w' B (.slice (some ⟨g, 0, none⟩) (n + m) cap) (n + m) (zs ++ ys) → Below B w0 w' → w.grownBy w' v.ownBlock → (v.ownBlock = some g ∨ g = w.heap.size) → wpList Tryz.prog ops Q rest (a.put o.dst (.slice (some ⟨g, 0, none⟩) (n + m) cap)) w') : wpList Tryz.prog ops Q (o :: rest) a w := by
 obtain ⟨i0, hi, hz0, hz1, hz2⟩ := info_parts info8
 refine wpList_append_lies w hgd s x 29 ho B 5 i0 (.int .u8 0) 1 1 Tryz.underlying29 hi hz0 hz1 hz2 rfl (by decide) v n _ hs hown.row p m c (ys.map (Value.int .u8)) hx (by simp [hy.len]) (bys_news hy) (ints_one ys) hm (by unfold maxLen; omega) (by omega) hB _ rfl ?_
 intro g cap w' hown' hgrow hat _
 exact h g cap w' ⟨by rw [List.map_append]; exact hown', hown.small.app hy.small⟩ (hb.grown hgrow hB fun k hk => (hown.row.lt k hk).1) hgrow hat
theorem wpList_aps {w : World} {ops : Array Oper} {rest : List Oper} {o : Oper} {a : Act} {Q : Exit → Act → World → Prop} (hgd : o.guard = none) (s x : Operand)
  (ho : o.op = .call { callee := .builtin .append, args := #[s, x], argTypes := #[29, 9] })
  (B : Nat) (v : Value) (n : Nat) (zs : List Int) (hs : a.eval s = v) (hown : Own w B v n zs) (t : ByteArray) (hx : a.eval x = .string t)
  (hnm : n + t.size ≤ 140737488355328) (hB : B ≤ w.heap.size) (w0 : World) (hb : Below B w0 w)
  (h : ∀ v' w', Own w' B v' (n + t.size) (zs ++ bI t.data.toList) → Below B w0 w' → wpList Tryz.prog ops Q rest (a.put o.dst v') w') : wpList Tryz.prog ops Q (o :: rest) a w := by
 obtain ⟨i0, hi, hz0, hz1, hz2⟩ := info_parts info8
 refine Lib.wpList_append_own_string w hgd s x _ _ ho B 5 i0 Tryz.underlying29 Tryz.underlying9 hi hz0 hz1 hz2 v n _ hs hown.row t hx (by unfold maxLen; omega) hnm hB ?_
 intro v' w' hown' hgrow _
 refine h v' w' ⟨?_, hown.small.app (bI_all _)⟩ (hb.grown hgrow hB fun k hk => (hown.row.lt k hk).1)
 rw [List.map_append, ← str_cells]
 exact hown'
theorem wp_ape2 {w : World} {o : Oper} {a : Act} {K : Act → World → Prop} {Q : Exit → Act → World → Prop} (s x : Operand)
  (ho : o.op = .call { callee := .builtin .append, args := #[s, x], argTypes := #[52, 52] })
  (B : Nat) (v : Value) (n : Nat) (L : List En) (hs : a.eval s = v) (hown : OwnE w B v n L) (b off m c : Nat) (M : List En) (hx : a.eval x = .slice (some ⟨b, off, none⟩) m c) (hM : Ens w (some ⟨b, off, none⟩) m M) (hm : 0 < m)
  (hn : n + m ≤ 1000000000000) (hB : B ≤ w.heap.size) (w0 : World) (hb : Below B w0 w)
  (h : ∀ v' w', OwnE w' B v' (n + m) (L ++ M) → Below B w0 w' → w.grownBy w' v.ownBlock → K (a.put o.dst v') w') :
  Oper.wp Tryz.prog o a w K Q := by
 obtain ⟨i0, hi, hz0, hz1, hz2⟩ := info_parts infoE
 refine wp_append_lies w s x 52 ho B 77 i0 _ 2 24 Tryz.underlying52 hi hz0 hz1 hz2 rfl (by decide) v n _ hs hown ⟨b, off, none⟩ m c (M.flatMap ecl) hx (by rw [eflat_len, hM.len]) hM.cells (eflat_one M) hm (by unfold maxLen; omega) (by omega) hB _ rfl ?_
 intro g cap w' hown' hgrow hat _
 exact h _ w' (by unfold OwnE; rw [List.flatMap_append]; exact hown') (hb.grown hgrow hB fun k hk => (hown.lt k hk).1) hgrow
def plG (f : Nat → Nc) (n : Nat) (k : Nat) : Nat := (met (chs (ndL f n))).idxOf k
theorem set_step {E : List En} {k : Nat} (h : k < E.length) (g : Nat → Nat) : (E.take k).map (setI g) ++ [setI g (eat E k)] = (E.take (k + 1)).map (setI g) := by
 have : E.take (k + 1) = E.take k ++ [eat E k] := by
  rw [List.take_add_one, List.getElem?_eq_getElem h]
  simp [eat, List.getD, h]
 rw [this, List.map_append]
 rfl
def NdB1 (w : World) (b : Nat) (vs : Array Value) : Prop := w.heap[b]? = some (.cells vs 54 (0, 0))
theorem NdB1.load {w : World} {b : Nat} {v0 v1 v2 v3 : Value} (h : NdB1 w b #[v0, v1, v2, v3]) : (loadVar 54 ⟨b, 0, none⟩).run Tryz.prog w = .ok (.agg #[v0, v1, v2, v3]) w :=
 run_loadVar_row w b _ _ _ _ _ h Tryz.underlying54 rfl (by kernel_rfl)
theorem NdB1.set {w : World} {b : Nat} {a0 a1 a2 a3 : Value} (h : NdB1 w b #[a0, a1, a2, a3]) (v0 v1 v2 v3 : Value) :
  NdB1 ((((w.setCell ⟨b, 0, none⟩ v0).setCell ⟨b, 1, none⟩ v1).setCell ⟨b, 2, none⟩ v2).setCell ⟨b, 3, none⟩ v3) b #[v0, v1, v2, v3] := cells_set (cells_set (cells_set (cells_set h)))
theorem NdB1.cells {w : World} {b : Nat} {v0 v1 v2 v3 : Value} (h : NdB1 w b #[v0, v1, v2, v3]) : w.cell? ⟨b, 0, none⟩ = some v0 ∧ w.cell? ⟨b, 1, none⟩ = some v1 ∧ w.cell? ⟨b, 2, none⟩ = some v2 ∧ w.cell? ⟨b, 3, none⟩ = some v3 := by
 unfold NdB1 at h
 refine ⟨?_, ?_, ?_, ?_⟩ <;> simp [World.cell?, h]
theorem NdB1.free {w : World} {b : Nat} {vs : Array Value} (h : NdB1 w b vs) (i : Nat) : w.frozen? ⟨b, i, none⟩ = false := frozen_of_row w b i _ _ h
def CoPost (w : World) (k l : Int) (d : List Int) (E : List En) (e : Ending) (w' : World) : Prop :=
 ∃ da dc ea ec, e = .returned (.agg #[.int .i64 k, .int .i64 l, .slice da d.length dc, .slice ea E.length ec]) ∧ Pin w' da d.length dc d ∧ Enz w' ea E.length ec E ∧ Below w.heap.size w w'
section
variable {w : World} {wb pb eb n c : Nat} {na : Option Addr} {f : Nat → Nc}
theorem copied_any (h : Mtd w wb pb eb na n c f) (hok : EntOk n f) {a : Nat} (ha : a < n) (hf : Fit (f a).e) (hcl : ∀ y ∈ (f a).e, inoN y ∈ met (chs (ndL f n))) (hdl : (f a).d.length ≤ 100000) :
  Calls Tryz.prog 73 #[.pointer (some ⟨wb, 0, none⟩), .int .i64 a] w (CoPost w (f a).k (lnkM (ndL f n) a) (f a).d ((f a).e.map (setI (plG f n)))) := by
 have hn := hok.1
 obtain ⟨g, hg⟩ : ∃ g, g = plG f n := ⟨_, rfl⟩
 rw [← hg]
 have hlen0 := (h.nds.ents a ha).ens.len
 have hdlen := (h.nds.data a ha).len
 have c0 := h.wk.c0
 have hwl := h.wk.lt
 obtain ⟨b, off, rfl, hbl, d0, d1, d2, d3⟩ := h.nds.at ha
 rw [← hlen0] at d3
 have k0 : (0 : Int) ≤ (a : Int) := by omega
 have k1 : (a : Int) < (n : Int) := by omega
 obtain ⟨W0, hW0⟩ : ∃ W0, W0 = (w.alloc (.cells #[.int .i64 0, .int .i64 0, .slice none 0 0, .slice none 0 0] 54 (0, 0))).alloc (.cells #[.int .i64 (f a).k, .int .i64 (f a).l, .slice (f a).da (f a).dn (f a).dc, .slice (f a).ea (f a).e.length (f a).ec] 54 (0, 0)) := ⟨_, rfl⟩
 have hbW : Below w.heap.size w W0 := by rw [hW0]; exact ((Below.refl _ _).alloc (Nat.le_refl _) _).alloc (by simp) _
 obtain ⟨H, hH⟩ : ∃ H, H = w.heap.size := ⟨_, rfl⟩
 have hr1 : NdB1 W0 H #[.int .i64 0, .int .i64 0, .slice none 0 0, .slice none 0 0] := by
  have h1 := heap_alloc_new w (.cells #[.int .i64 0, .int .i64 0, .slice none 0 0, .slice none 0 0] 54 (0, 0))
  rw [hW0, hH]
  exact (Below.heap_alloc _ _ _ (by simp)).trans h1
 have hr2 : NdB1 W0 (H + 1) #[.int .i64 (f a).k, .int .i64 (f a).l, .slice (f a).da (f a).dn (f a).dc, .slice (f a).ea (f a).e.length (f a).ec] := by
  have h1 := heap_alloc_new (w.alloc (.cells #[.int .i64 0, .int .i64 0, .slice none 0 0, .slice none 0 0] 54 (0, 0))) (.cells #[.int .i64 (f a).k, .int .i64 (f a).l, .slice (f a).da (f a).dn (f a).dc, .slice (f a).ea (f a).e.length (f a).ec] 54 (0, 0))
  have e : (w.alloc (.cells #[.int .i64 0, .int .i64 0, .slice none 0 0, .slice none 0 0] 54 (0, 0))).heap.size = w.heap.size + 1 := by simp
  rw [e] at h1
  rw [hW0, hH]
  exact h1
 have hW0s : W0.heap.size = H + 1 + 1 := by rw [hW0, hH]; simp
 have HW0M := qH (h.next hbW)
 have HR1 := qH hr1
 have HR2 := qH hr2
 have HH := qH hH
 have HWS := qH hW0s
 have HBW := qH hbW
 have HOK := qH hok
 have HF := qH hf
 have HCL := qH hcl
 have HGG := qH hg
 have HDL := qH (And.intro hdl hdlen)
 have hel := (hok.2 a ha).1
 obtain ⟨E, hE⟩ : ∃ E, E = (f a).e := ⟨_, rfl⟩
 rw [← hE] at hW0 HR2 HF HCL hel d3 ⊢
 have HEE := qH hE
 clear h hok hf hcl hlen0 hdlen hr1 hr2 hW0s hbW hdl hg hE
 go_enter Tryz.func73, Tryz.ntmps73
 go_wp2_with fail
 rw [← hW0, ← hH]
 clear hW0 hH hwl hbl
 go_loopw [6, 20] (fun v6 v wr => ∃ j : Nat, j ≤ E.length ∧ v = .int .i64 j ∧ OwnE wr W0.heap.size v6 j ((E.take j).map (setI g)) ∧ Below W0.heap.size W0 wr) (fun _ v _ => E.length - (RowKit.intOf v).toNat)
 case atStart => exact ⟨0, Nat.zero_le _, rfl, ownE_nil _ _, Below.refl _ _⟩
 case round =>
  obtain ⟨j, hj, rfl, hO, hB⟩ := hrel
  have HB := qH hB
  by_cases hlt : j < E.length
  ·have j0 : (0 : Int) ≤ (j : Int) := by omega
   have j1 : (j : Int) < (E.length : Int) := by omega
   have hm := HW0M.out.next hB; obtain ⟨b2, off2, he2, hbl2, hd1, hd2⟩ := (hm.nds.ents a ha).ens.at (i := j) (by rw [← (hm.nds.ents a ha).ens.len, ← HEE.out]; exact hlt); rw [← HEE.out] at hd1 hd2; rw [he2] at *; have hbnd := (HOK.out.2 a ha).2 _ (by rw [← HEE.out]; exact eat_mem hlt)
   obtain ⟨kd, hkd⟩ : ∃ kd : Nat, (eat E j).i = (kd : Int) := ⟨inoN (eat E j), by unfold inoN; omega⟩
   have hki : inoN (eat E j) = kd := by unfold inoN; omega
   have hmem : kd ∈ met (chs (ndL f n)) := by rw [← hki]; exact HCL.out _ (eat_mem hlt)
   rw [hkd] at hd2
   obtain ⟨s, hs⟩ : ∃ s, s = (eat E j).s := ⟨_, rfl⟩
   rw [← hs] at hd1
   have hss : s.size ≤ 281474976710656 := by rw [hs]; exact HF.out.at hlt
   obtain ⟨ix, hix⟩ : ∃ ix, ix = g kd := ⟨_, rfl⟩
   have hstep := set_step hlt g
   have hset : setI g (eat E j) = En.mk s (ix : Int) := by rw [setI, hki, ← hs, ← hix]
   rw [hset] at hstep
   obtain ⟨q, hq⟩ : ∃ q, q = wr.heap.size := ⟨_, rfl⟩
   obtain ⟨w3, hw3⟩ : ∃ w3, w3 = (wr.alloc (.cells #[.string s, .int .i64 (kd : Int)] 77 (0, 0))).drew := ⟨_, rfl⟩
   have hr3 : w3.heap[q]? = some (.cells #[.string s, .int .i64 (kd : Int)] 77 (0, 0)) := by rw [hw3, hq]; exact heap_alloc_new wr _
   have hb3 : Below wr.heap.size wr w3 := by rw [hw3]; exact below_drewN ((Below.refl _ _).alloc (Nat.le_refl _) _) 1
   have hm3 := hm.next hb3; obtain ⟨va, vc, rfl, _, _, _, _, hlo⟩ := hO.ens; have HO3 := qH (hO.next hb3); have HW3 := qH (hB.trans (hb3.mono hB.size))
   have HS : Hid (∀ w', Below w3.heap.size w3 w' → (w'.cell? ⟨wb, 1, none⟩ = some (.map (some pb)) ∧ w'.cell? ⟨q, 0, none⟩ = some (.string s) ∧ w'.cell? ⟨q, 1, none⟩ = some (.int .i64 (kd : Int)))) := qH (fun w' hb' => by
    have h1 := (hm3.next hb').wk.c1; have h2 : w'.heap[q]? = _ := (hb'.block q (lt_of_block hr3)).trans hr3
    exact ⟨h1, by simp [World.cell?, h2], by simp [World.cell?, h2]⟩)
   have HLK : Hid (∀ w', Below w3.heap.size w3 w' → (Instr.lookup 79 (.map (some pb)) (.int .i64 (kd : Int)) false).run Tryz.prog w' = .ok (.int .i64 (ix : Int)) w') := qH (fun w' hb' => by
    have := (hm3.next hb').pl.get (a := kd) (by omega) hmem; rw [hix, HGG.out]
    exact this)
   have HCN := qH (fun w' : World => clone_any s w' hss); have HQ := qH hq
   have HS6F : Hid (∀ w5 w6, Below w3.heap.size w3 w5 → w5.grownBy w6 (Value.slice va j vc).ownBlock → (w6.cell? ⟨wb, 1, none⟩ = some (.map (some pb)) ∧ w6.cell? ⟨q, 0, none⟩ = some (.string s) ∧ w6.cell? ⟨q, 1, none⟩ = some (.int .i64 (kd : Int)))) := qH (fun w5 w6 h5 h6 => by
    have hne : ∀ k, (Value.slice va j vc).ownBlock = some k → k < wr.heap.size := fun k hk => (hO.lt k hk).2
    have hq5 : w5.heap[q]? = _ := (h5.block q (lt_of_block hr3)).trans hr3; have hq6 : w6.heap[q]? = _ := (h6.block q (lt_of_block hq5) (fun e => by have := hne q e.symm; omega)).trans hq5; have hwb := (hm3.next h5).wk
    have hlow := (hO.lt)
    have hwbk : w6.heap[wb]? = w5.heap[wb]? := h6.block wb hwb.lt (fun e => by
     have h1 := (hO.lt wb e.symm).1; have h2 := HW0M.out.wk.lt
     omega)
    exact ⟨(hwb.block hwbk).c1, by simp [World.cell?, hq6], by simp [World.cell?, hq6]⟩)
   have HSTEP := qH hstep; have hS3 := HS.out w3 (Below.refl _ _); clear hbl2 hbnd hkd hki hmem hs hss hix hstep hset hr3 hb3 hm3 hm hO hB hlo he2; go_wp2_with fail; rw [← hq]; refine wp_region_held_drew (S := (fun w' => w'.cell? ⟨wb, 1, none⟩ = some (.map (some pb)) ∧ w'.cell? ⟨q, 0, none⟩ = some (.string s) ∧ w'.cell? ⟨q, 1, none⟩ = some (.int .i64 (kd : Int)))) (by kernel_rfl) ?_ (fun hHeld => ?_)
   ·rw [← hw3]
    exact hS3
   rw [← hw3] at hHeld ⊢; clear hw3 hq hHeld hd1 hd2; refine rgZ 0 ?_ rfl (.inl ⟨by rfl, fun w hSw => ?_⟩) ?_ (by kernel_rfl) (fun _ _ _ h => h) (by assumption); rotate_left
   ·(try dsimp only at hSw); go_simp; try with_reducible rfl
   simp only [Act.put, rg]; refine rgZ 1 ?_ rfl (.inl ⟨by rfl, fun w hSw => ?_⟩) ?_ (by kernel_rfl) (fun _ _ _ h => h) (by assumption); rotate_left
   ·(try dsimp only at hSw); go_simp; try with_reducible rfl
   simp only [Act.put, rg]; refine rgZ 2 ?_ rfl (.inl ⟨by rfl, fun w hSw => ?_⟩) ?_ (by kernel_rfl) (fun _ _ _ h => h) (by assumption); rotate_left
   ·(try dsimp only at hSw); go_simp; try with_reducible rfl
   simp only [Act.put, rg]; refine rgZ 4 ?_ rfl (.inl ⟨by rfl, fun w hSw => ?_⟩) ?_ (by kernel_rfl) (fun _ _ _ h => h) (by assumption); rotate_left
   ·(try dsimp only at hSw); go_simp; try with_reducible rfl
   simp only [Act.put, rg]; refine rgZ 5 ?_ rfl (.inl ⟨by rfl, fun w hSw => ?_⟩) ?_ (by kernel_rfl) (fun _ _ _ h => h) (by assumption); rotate_left
   ·(try dsimp only at hSw); go_simp; try with_reducible rfl
   simp only [Act.put, rg]; refine rgZ 6 ?_ rfl (.inl ⟨by rfl, fun w hSw => ?_⟩) ?_ (by kernel_rfl) (fun _ _ _ h => h) (by assumption); rotate_left
   ·(try dsimp only at hSw); go_simp; try with_reducible rfl
   simp only [Act.put, rg]; refine rgZ 7 ?_ rfl (.inl ⟨by rfl, fun w hSw => ?_⟩) ?_ (by kernel_rfl) (fun _ _ _ h => h) (by assumption); rotate_left
   ·(try dsimp only at hSw); go_simp; try with_reducible rfl
   simp only [Act.put, rg]; refine rgZ 8 ?_ rfl (.inl ⟨by rfl, fun w hSw => ?_⟩) ?_ (by kernel_rfl) (fun _ _ _ h => h) (by assumption); rotate_left
   ·(try dsimp only at hSw); go_simp; try with_reducible rfl
   simp only [Act.put, rg]; refine rgZ 9 ?_ rfl (.inl ⟨by rfl, fun w hSw => ?_⟩) ?_ (by kernel_rfl) (fun _ _ _ h => h) (by assumption); rotate_left
   ·(try dsimp only at hSw); go_simp; try with_reducible rfl
   simp only [Act.put, rg]; refine wpAnyH_ready (rs := [3, 10]) (by kernel_rfl) (by simp) ?_; refine AllReadyH.cons rfl (fun K hK => ?_) (AllReadyH.cons rfl (fun K hK => ?_) AllReadyH.nil)
   ·simp only [rg4, rg5, rg6]
    go_simp; refine (HCN.out w3).mono ?_; rintro e w4 ⟨rfl, hb4⟩; have HB4 := qH hb4; have hlk4 := HLK.out w4 hb4; clear hb4; go_wp2_with fail; refine hK.out _ _ (HS.out _ HB4.out) (fun _ => ?_); clear hK K; refine rgC 10 rfl (by kernel_rfl) (fun K hK => ?_); simp only [rg4, rg5, rg6]; go_simp; refine hK.out _ _ (HS.out _ HB4.out) (fun _ => ?_); clear hK K; clear hlk4; refine rgZ 11 ?_ rfl (.inl ⟨by rfl, fun w hSw => ?_⟩) ?_ (by kernel_rfl) (fun _ _ _ h => h) (by assumption); rotate_left
    ·(try dsimp only at hSw); go_simp; try with_reducible rfl
    simp only [Act.put, rg]; refine rgC 12 rfl (by kernel_rfl) (fun K hK => ?_); simp only [rg4, rg5, rg6]; go_simp; have hb5 : Below w3.heap.size w3 (w4.alloc (.cells #[.string s, .int .i64 (ix : Int)] 77 (0, 0))) := HB4.out.alloc HB4.out.size _; refine hK.out _ _ (HS.out _ hb5) (fun _ => ?_); clear hK K; have HO5 := qH (HO3.out.next hb5); have HW5 := qH (HW3.out.trans (hb5.mono HW3.out.size)); have HM5 := qH (ens_one (w := w4) (g := w4.heap.size) s (ix : Int) rfl); have HB5 := qH hb5; have hXs : W0.heap.size ≤ (w4.alloc (.cells #[.string s, .int .i64 (ix : Int)] 77 (0, 0))).heap.size := HW5.out.size; clear hb5; refine wpAnyH_ready (rs := [13]) (by kernel_rfl) (by simp) ?_; refine AllReadyH.cons rfl (fun K hK => ?_) AllReadyH.nil; simp only [rg4, rg5, rg6]; rw [if_pos (by rfl)]; refine wp_ape2 (.tmp 24) (.tmp 36) rfl W0.heap.size (.slice va j vc) j ((E.take j).map (setI g)) rfl HO5.out w4.heap.size 0 1 1 [En.mk s (ix : Int)] rfl HM5.out (by omega) (by omega) hXs W0 HW5.out ?_; intro v6 w6 ho6 hb6 hg6; have HS6 := qH (HS6F.out _ _ HB5.out hg6); refine hK.out _ _ HS6.out (fun _ => ?_); rw [HSTEP.out] at ho6; have HO6 := qH ho6; have HB6 := qH hb6; clear hK K ho6 hb6 hg6; refine rgZ 14 ?_ rfl (.inl ⟨by rfl, fun w hSw => ?_⟩) ?_ (by kernel_rfl) (fun _ _ _ h => h) (by assumption); rotate_left
    ·(try dsimp only at hSw); go_simp; try with_reducible rfl
    simp only [Act.put, rg]; refine wpAnyH_done (by kernel_rfl) ?_ _; clear hXs; go_wp2_with fail
    go_roundw
    case rel => exact ⟨j + 1, by omega, by go_num, HO6.out, HB6.out⟩
    case measure => simp [RowKit.intOf]; omega
   ·have hlk3 := HLK.out w3 (Below.refl _ _)
    simp only [rg4, rg5, rg6]; go_simp; refine hK.out _ _ (HS.out _ (Below.refl _ _)) (fun _ => ?_); clear hK K; clear hlk3; refine rgC 3 rfl (by kernel_rfl) (fun K hK => ?_); simp only [rg4, rg5, rg6]; go_simp; refine (HCN.out w3).mono ?_; rintro e w4 ⟨rfl, hb4⟩; have HB4 := qH hb4; clear hb4; go_wp2_with fail; refine hK.out _ _ (HS.out _ HB4.out) (fun _ => ?_); clear hK K; refine rgZ 11 ?_ rfl (.inl ⟨by rfl, fun w hSw => ?_⟩) ?_ (by kernel_rfl) (fun _ _ _ h => h) (by assumption); rotate_left
    ·(try dsimp only at hSw); go_simp; try with_reducible rfl
    simp only [Act.put, rg]; refine rgC 12 rfl (by kernel_rfl) (fun K hK => ?_); simp only [rg4, rg5, rg6]; go_simp; have hb5 : Below w3.heap.size w3 (w4.alloc (.cells #[.string s, .int .i64 (ix : Int)] 77 (0, 0))) := HB4.out.alloc HB4.out.size _; refine hK.out _ _ (HS.out _ hb5) (fun _ => ?_); clear hK K; have HO5 := qH (HO3.out.next hb5); have HW5 := qH (HW3.out.trans (hb5.mono HW3.out.size)); have HM5 := qH (ens_one (w := w4) (g := w4.heap.size) s (ix : Int) rfl); have HB5 := qH hb5; have hXs : W0.heap.size ≤ (w4.alloc (.cells #[.string s, .int .i64 (ix : Int)] 77 (0, 0))).heap.size := HW5.out.size; clear hb5; refine wpAnyH_ready (rs := [13]) (by kernel_rfl) (by simp) ?_; refine AllReadyH.cons rfl (fun K hK => ?_) AllReadyH.nil; simp only [rg4, rg5, rg6]; rw [if_pos (by rfl)]; refine wp_ape2 (.tmp 24) (.tmp 36) rfl W0.heap.size (.slice va j vc) j ((E.take j).map (setI g)) rfl HO5.out w4.heap.size 0 1 1 [En.mk s (ix : Int)] rfl HM5.out (by omega) (by omega) hXs W0 HW5.out ?_; intro v6 w6 ho6 hb6 hg6; have HS6 := qH (HS6F.out _ _ HB5.out hg6); refine hK.out _ _ HS6.out (fun _ => ?_); rw [HSTEP.out] at ho6; have HO6 := qH ho6; have HB6 := qH hb6; clear hK K ho6 hb6 hg6; refine rgZ 14 ?_ rfl (.inl ⟨by rfl, fun w hSw => ?_⟩) ?_ (by kernel_rfl) (fun _ _ _ h => h) (by assumption); rotate_left
    ·(try dsimp only at hSw); go_simp; try with_reducible rfl
    simp only [Act.put, rg]; refine wpAnyH_done (by kernel_rfl) ?_ _; clear hXs; go_wp2_with fail
    go_roundw
    case rel => exact ⟨j + 1, by omega, by go_num, HO6.out, HB6.out⟩
    case measure => simp [RowKit.intOf]; omega
  ·obtain rfl : j = E.length := by omega
   rw [List.take_length] at hO; obtain ⟨va, vc, rfl, hvE, hvc, hvm, hvn, hlo⟩ := hO.ens
   obtain ⟨w3, hw3⟩ : ∃ w3, w3 = wr.drew := ⟨_, rfl⟩
   have hb3 : Below W0.heap.size W0 w3 := by rw [hw3]; exact below_drewN hB 1
   have hs3 : w3.heap.size = wr.heap.size := by rw [hw3]; rfl
   have HWW : Hid (∀ w', Below w3.heap.size w3 w' → Below w.heap.size w w') := qH (fun w' hb' => HBW.out.trans ((hb3.trans (hb'.mono hb3.size)).mono HBW.out.size)); have HM3 : Hid (∀ w', Below w3.heap.size w3 w' → Mtd w' wb pb eb (some ⟨b, off, none⟩) n c f) := qH (fun w' hb' => HW0M.out.next (hb3.trans (hb'.mono hb3.size))); have HRW : Hid (∀ w', Below w3.heap.size w3 w' → NdB1 w' H #[.int .i64 0, .int .i64 0, .slice none 0 0, .slice none 0 0]) := qH (fun w' hb' => ((hb3.trans (hb'.mono hb3.size)).block H (by rw [HWS.out]; omega)).trans HR1.out)
   have HLT : Hid (∀ w', Below w3.heap.size w3 w' → H + 1 < w'.heap.size) := qH (fun w' hb' => by
    have h1 := (hb3.trans (hb'.mono hb3.size)).size; rw [HWS.out] at h1
    omega)
   have HS : Hid (∀ w', Below w3.heap.size w3 w' → (w'.cell? ⟨H + 1, 0, none⟩ = some (.int .i64 (f a).k) ∧ w'.cell? ⟨H + 1, 2, none⟩ = some (.slice (f a).da (f a).dn (f a).dc))) := qH (fun w' hb' => by
    have h2 : w'.heap[H + 1]? = _ := ((hb3.trans (hb'.mono hb3.size)).block (H + 1) (by rw [HWS.out]; omega)).trans HR2.out
    exact ⟨by simp [World.cell?, h2], by simp [World.cell?, h2]⟩)
   have HEZ : Hid (∀ w', Below w3.heap.size w3 w' → Enz w' va E.length vc (E.map (setI g)) ∧ ∀ x, va = some x → W0.heap.size ≤ x.block) := qH (fun w' hb' => by
    have hbw : Below wr.heap.size wr w' := by
     have h1 : Below wr.heap.size wr w3 := by rw [hw3]; exact below_drewN (Below.refl _ _) 1
     exact h1.trans (hb'.mono (by rw [hs3]; exact Nat.le_refl _))
    exact ⟨⟨hvE.next hbw, hvn, hvc, hvm⟩, fun x hx => (hlo x hx).1⟩)
   have hS3 := HS.out w3 (Below.refl _ _); clear hO hB hvE hvc hvm hvn hlo hb3 hs3 c0 d0 d1 d2 k0 k1 hel; go_wp2_with fail; refine wp_region_held_drew (S := (fun w' => w'.cell? ⟨H + 1, 0, none⟩ = some (.int .i64 (f a).k) ∧ w'.cell? ⟨H + 1, 2, none⟩ = some (.slice (f a).da (f a).dn (f a).dc))) (by kernel_rfl) ?_ (fun hHeld => ?_)
   ·rw [← hw3]
    exact hS3
   rw [← hw3] at hHeld ⊢; clear hw3 hHeld hj; refine rgZ 0 ?_ rfl (.inl ⟨by rfl, fun w hSw => ?_⟩) ?_ (by kernel_rfl) (fun _ _ _ h => h) (by assumption); rotate_left
   ·(try dsimp only at hSw); go_simp; try with_reducible rfl
   simp only [Act.put, rg]; refine rgZ 1 ?_ rfl (.inl ⟨by rfl, fun w hSw => ?_⟩) ?_ (by kernel_rfl) (fun _ _ _ h => h) (by assumption); rotate_left
   ·(try dsimp only at hSw); go_simp; try with_reducible rfl
   simp only [Act.put, rg]; refine rgZ 2 ?_ rfl (.inl ⟨by rfl, fun w hSw => ?_⟩) ?_ (by kernel_rfl) (fun _ _ _ h => h) (by assumption); rotate_left
   ·(try dsimp only at hSw); go_simp; try with_reducible rfl
   simp only [Act.put, rg]; refine rgZ 3 ?_ rfl (.inl ⟨by rfl, fun w hSw => ?_⟩) ?_ (by kernel_rfl) (fun _ _ _ h => h) (by assumption); rotate_left
   ·(try dsimp only at hSw); go_simp; try with_reducible rfl
   simp only [Act.put, rg]; refine rgZ 5 ?_ rfl (.inl ⟨by rfl, fun w hSw => ?_⟩) ?_ (by kernel_rfl) (fun _ _ _ h => h) (by assumption); rotate_left
   ·(try dsimp only at hSw); go_simp; try with_reducible rfl
   simp only [Act.put, rg]; refine rgZ 6 ?_ rfl (.inl ⟨by rfl, fun w hSw => ?_⟩) ?_ (by kernel_rfl) (fun _ _ _ h => h) (by assumption); rotate_left
   ·(try dsimp only at hSw); go_simp; try with_reducible rfl
   simp only [Act.put, rg]; refine rgZ 8 ?_ rfl (.inl ⟨by rfl, fun w hSw => ?_⟩) ?_ (by kernel_rfl) (fun _ _ _ h => h) (by assumption); rotate_left
   ·(try dsimp only at hSw); go_simp; try with_reducible rfl
   simp only [Act.put, rg]; refine rgC 4 rfl (by kernel_rfl) (fun K hK => ?_); simp only [rg4, rg5, rg6]; go_simp; refine (links_any (HM3.out w3 (Below.refl _ _)) HOK.out ha).mono ?_; rintro e w4 ⟨rfl, hb4⟩; have HB4 := qH hb4; have hcn := bclone_any _ _ _ _ w4 ((HM3.out w4 hb4).nds.data a ha) (by have := HDL.out; omega); clear hb4; go_wp2_with fail; refine hK.out _ _ (HS.out _ HB4.out) (fun _ => ?_); clear hK K; refine rgC 7 rfl (by kernel_rfl) (fun K hK => ?_); simp only [rg4, rg5, rg6]; go_simp; refine hcn.mono ?_; rintro e w5 ⟨v, rfl, hv, hb5⟩; have HB5 := qH (HB4.out.trans (hb5.mono HB4.out.size)); obtain ⟨ca, cc, rfl, hpn, hpl⟩ := hv.pin; have HPN := qH (And.intro hpn fun x hx => Nat.le_trans HB4.out.size (hpl x hx).1); clear hcn hv hb5 hpn hpl; go_wp2_with fail; refine hK.out _ _ (HS.out _ HB5.out) (fun _ => ?_); clear hK K; refine rgZ 9 ?_ rfl (.inl ⟨by rfl, fun w hSw => ?_⟩) ?_ (by kernel_rfl) (fun _ _ _ h => h) (by assumption); rotate_left
   ·(try dsimp only at hSw); go_simp; try with_reducible rfl
   simp only [Act.put, rg]; obtain ⟨x0, x1, x2, x3⟩ := (HRW.out w5 HB5.out).cells; have g0 := (HRW.out w5 HB5.out).free 0; have g1 := (HRW.out w5 HB5.out).free 1; have g2 := (HRW.out w5 HB5.out).free 2; have g3 := (HRW.out w5 HB5.out).free 3; refine rgC 10 rfl (by kernel_rfl) (fun K hK => ?_); simp only [rg4, rg5, rg6]; go_simp; have hT : Turn (· = H) w5 ((((w5.setCell ⟨H, 0, none⟩ (.int .i64 (f a).k)).setCell ⟨H, 1, none⟩ (.int .i64 (lnkM (ndL f n) a))).setCell ⟨H, 2, none⟩ (.slice ca (f a).d.length cc)).setCell ⟨H, 3, none⟩ (.slice va E.length vc)) := ((((Turn.refl (· = H) w5).setO (p := ⟨H, 0, none⟩) rfl _).setO (p := ⟨H, 1, none⟩) rfl _).setO (p := ⟨H, 2, none⟩) rfl _).setO (p := ⟨H, 3, none⟩) rfl _; have hl5 : H + 1 < w5.heap.size := HLT.out w5 HB5.out
   have hSf : (((((w5.setCell ⟨H, 0, none⟩ (.int .i64 (f a).k)).setCell ⟨H, 1, none⟩ (.int .i64 (lnkM (ndL f n) a))).setCell ⟨H, 2, none⟩ (.slice ca (f a).d.length cc)).setCell ⟨H, 3, none⟩ (.slice va E.length vc)).cell? ⟨H + 1, 0, none⟩ = some (.int .i64 (f a).k) ∧ ((((w5.setCell ⟨H, 0, none⟩ (.int .i64 (f a).k)).setCell ⟨H, 1, none⟩ (.int .i64 (lnkM (ndL f n) a))).setCell ⟨H, 2, none⟩ (.slice ca (f a).d.length cc)).setCell ⟨H, 3, none⟩ (.slice va E.length vc)).cell? ⟨H + 1, 2, none⟩ = some (.slice (f a).da (f a).dn (f a).dc)) := ⟨(hT.cell (a := ⟨H + 1, 0, none⟩) hl5 (by show ¬ H + 1 = H; omega)).trans (HS.out _ HB5.out).1, (hT.cell (a := ⟨H + 1, 2, none⟩) hl5 (by show ¬ H + 1 = H; omega)).trans (HS.out _ HB5.out).2⟩
   have HFIN : Hid (CoPost w (f a).k (lnkM (ndL f n) a) (f a).d (E.map (setI g)) (.returned (.agg #[.int .i64 (f a).k, .int .i64 (lnkM (ndL f n) a), .slice ca (f a).d.length cc, .slice va E.length vc])) ((((w5.setCell ⟨H, 0, none⟩ (.int .i64 (f a).k)).setCell ⟨H, 1, none⟩ (.int .i64 (lnkM (ndL f n) a))).setCell ⟨H, 2, none⟩ (.slice ca (f a).d.length cc)).setCell ⟨H, 3, none⟩ (.slice va E.length vc))) := qH (by
    obtain ⟨hpn, hpl⟩ := HPN.out; have hez := HEZ.out w5 HB5.out; have hml : (E.map (setI g)).length = E.length := List.length_map _; refine ⟨ca, cc, va, vc, by rw [hml], hpn.turn hT ?_, ?_, ?_⟩
    ·rintro _ b3 off3 e rfl
     have := hpl _ e; have := HLT.out w3 (Below.refl _ _); simp only at *
     omega
    ·rw [hml]
     refine hez.1.turn hT ?_; rintro _ b3 off3 e rfl; have := hez.2 _ e; have := HWS.out; simp only at *
     omega
    ·exact ((((HWW.out w5 HB5.out).setCell (p := ⟨H, 0, none⟩) (Nat.le_of_eq HH.out.symm) _).setCell (p := ⟨H, 1, none⟩) (Nat.le_of_eq HH.out.symm) _).setCell (p := ⟨H, 2, none⟩) (Nat.le_of_eq HH.out.symm) _).setCell (p := ⟨H, 3, none⟩) (Nat.le_of_eq HH.out.symm) _)
   have HRF : Hid (NdB1 ((((w5.setCell ⟨H, 0, none⟩ (.int .i64 (f a).k)).setCell ⟨H, 1, none⟩ (.int .i64 (lnkM (ndL f n) a))).setCell ⟨H, 2, none⟩ (.slice ca (f a).d.length cc)).setCell ⟨H, 3, none⟩ (.slice va E.length vc)) H #[.int .i64 (f a).k, .int .i64 (lnkM (ndL f n) a), .slice ca (f a).d.length cc, .slice va E.length vc]) := qH ((HRW.out w5 HB5.out).set _ _ _ _); clear x0 x1 x2 x3 g0 g1 g2 g3 hT hl5; refine hK.out _ _ (hSf) (fun _ => ?_); clear hK K; clear hSf; refine wpAnyH_done (by kernel_rfl) ?_ _; go_wp2_with fail; refine bodyPost_ret (res_cell rfl _ _ ⟨H, 0, none⟩ _ rfl HRF.out.load) rfl ?_
   exact HFIN.out
end
end Go.Proofs.YtinholnidchblaaGreatDoor
