import Derived.Test.YtinholnidchblaaGreatDoorQab
import Derived.Test.YtinholnidchblaaGreatDoorQaa
import Derived.Shelf.Abstract
import Derived.Test.YtinholnidchblaaGreatDoorLay
import Derived.Lib.AppendZeros
import Derived.Lib.AppendZerosOnto
import Derived.Lib.Overlaps
import Derived.Laws.Externs
import Derived.Deep.RegionLaw
set_option linter.unusedVariables false
set_option linter.unusedSimpArgs false
set_option maxRecDepth 100000
set_option maxHeartbeats 16000000
namespace Go.Proofs.YtinholnidchblaaGreatDoor
open Go.RowKit
def bat (l : List UInt8) (i : Nat) : Int := ((l.getD i 0).toNat : Int)
theorem bat_ok (l : List UInt8) (i : Nat) : okB (l.getD i 0) = !(bat l i == 0 || bat l i == 47) := by
 unfold bat okB
 generalize l.getD i 0 = b
 have h0 : (b == 0) = ((b.toNat : Int) == 0) := by
  rw [Bool.eq_iff_iff, beq_iff_eq, beq_iff_eq]
  constructor
  ·intro h; subst h; rfl
  ·intro e
   exact UInt8.toNat_inj.1 (by rw [show (0 : UInt8).toNat = 0 from rfl]; omega)
 have h1 : (b == 47) = ((b.toNat : Int) == 47) := by
  rw [Bool.eq_iff_iff, beq_iff_eq, beq_iff_eq]
  constructor
  ·intro h; subst h; rfl
  ·intro e
   exact UInt8.toNat_inj.1 (by rw [show (47 : UInt8).toNat = 47 from rfl]; omega)
 rw [h0, h1]
 cases ((b.toNat : Int) == 0) <;> cases ((b.toNat : Int) == 47) <;> rfl
theorem bad_any (x : Int) (w : World) : Calls Tryz.prog 127 #[.int .u8 x] w fun e w' => e = .returned (.bool (x == 0 || x == 47)) ∧ w' = w := by
 go_enter Tryz.func127, Tryz.ntmps127
 go_wp2
 all_goals go_ret
 all_goals refine ⟨?_, rfl⟩
 ·simp [*]
 ·rfl
def OkTo (l : List UInt8) (k : Nat) : Prop := ∀ j, j < k → okB (l.getD j 0) = true
theorem OkTo.zero (l : List UInt8) : OkTo l 0 := fun j h => by omega
theorem OkTo.succ {l : List UInt8} {k : Nat} (h : OkTo l k) (e : okB (l.getD k 0) = true) : OkTo l (k + 1) := fun j hj => by
 by_cases hk : j = k
 ·rw [hk]; exact e
 ·exact h j (by omega)
theorem OkTo.all {l : List UInt8} (h : OkTo l l.length) : l.all okB = true := by
 rw [List.all_eq_true]
 intro x hx
 obtain ⟨i, hi, rfl⟩ := List.getElem_of_mem hx
 have := h i hi
 simpa [List.getD, hi] using this
theorem not_all {l : List UInt8} {k : Nat} (hk : k < l.length) (e : okB (l.getD k 0) = false) : l.all okB = false := by
 rw [List.all_eq_false]
 refine ⟨l.getD k 0, by simp [List.getD, hk], by rw [e]; decide⟩
def IxI (w0 : World) (l : List UInt8) (v8 : Value) (w : World) : Prop := ∃ k : Nat, k ≤ l.length ∧ v8 = .int .i64 k ∧ w = w0 ∧ OkTo l k
theorem indexB_any (w : World) (b n c : Nat) (l : List UInt8) (hl : l.length = n) (hn : n ≤ 1000000) (hc : ∀ i, i < n → w.cell? ⟨b, i, none⟩ = some (.int .u8 (bat l i))) :
  Calls Tryz.prog 143 #[.slice (some ⟨b, 0, none⟩) n c, .func (.func 127) #[] #[]] w fun e w' => ∃ r : Int, e = .returned (.int .i64 r) ∧ decide (0 ≤ r) = !(l.all okB) ∧ w' = w := by
 subst hl
 go_enter Tryz.func143, Tryz.ntmps143
 go_wp2_with fail
 go_loopw [5, 8] (fun _ v wr => IxI w l v wr) (fun _ v _ => l.length - (RowKit.intOf v).toNat)
 case atStart => exact ⟨0, by omega, rfl, rfl, OkTo.zero _⟩
 case round =>
  obtain ⟨k, hk, rfl, rfl, hI⟩ := hrel
  have HI := qH hI
  clear hI
  by_cases hlt : k < l.length
  ·have k1 : (k : Int) < (l.length : Int) := by omega
   have k0 : (0 : Int) ≤ (k : Int) := by omega
   have x1 := hc k hlt; clear hc
   cases hb : okB (l.getD k 0) with
   | true =>
    have hbb := bat_ok l k; rw [hb] at hbb
    have hbf : (bat l k == 0 || bat l k == 47) = false := by simpa using hbb.symm
    have hcall := bad_any (bat l k) wr; rw [hbf] at hcall; clear hbb hbf; go_wp2_with fail; refine hcall.mono ?_; rintro e w' ⟨rfl, rfl⟩; go_wp2_with fail
    go_roundw
    case rel => exact ⟨k + 1, by omega, by go_num, rfl, HI.out.succ hb⟩
    case measure => simp [RowKit.intOf]; omega
   | false =>
    have hbb := bat_ok l k; rw [hb] at hbb
    have hbf : (bat l k == 0 || bat l k == 47) = true := by
     cases h : (bat l k == 0 || bat l k == 47) with
     | true => rfl
     | false => rw [h] at hbb; cases hbb
    have hcall := bad_any (bat l k) wr; rw [hbf] at hcall; clear hbb hbf; go_wp2_with fail; refine hcall.mono ?_; rintro e w' ⟨rfl, rfl⟩; go_wp2_with fail; go_ret
    exact ⟨k, rfl, by rw [not_all hlt hb]; simp, rfl⟩
  ·obtain rfl : k = l.length := by omega
   clear hc; go_wp2_with fail; go_ret
   exact ⟨-1, rfl, by rw [HI.out.all]; rfl, rfl⟩
theorem containsB_any (w : World) (b n c : Nat) (l : List UInt8) (hl : l.length = n) (hn : n ≤ 1000000) (hc : ∀ i, i < n → w.cell? ⟨b, i, none⟩ = some (.int .u8 (bat l i))) :
  Calls Tryz.prog 126 #[.slice (some ⟨b, 0, none⟩) n c, .func (.func 127) #[] #[]] w fun e w' => e = .returned (.bool (!(l.all okB))) ∧ w' = w := by
 have hi := indexB_any w b n c l hl hn hc
 clear hc
 go_enter Tryz.func126, Tryz.ntmps126
 go_wp2_with fail
 refine hi.mono ?_
 rintro e w' ⟨r, rfl, hr, rfl⟩
 go_wp2_with fail
 go_ret
 exact ⟨by rw [← hr]; rfl, rfl⟩
theorem nmB_short {l : List UInt8} (h : l.length < 1) : nmB l = false := by unfold nmB; rw [decide_eq_false (by omega : ¬ 1 ≤ l.length)]; rfl
theorem nmB_long {l : List UInt8} (h : 12 < l.length) : nmB l = false := by unfold nmB; rw [decide_eq_false (by omega : ¬ l.length ≤ 12), Bool.and_false]; rfl
theorem nmB_all {l : List UInt8} (h1 : 1 ≤ l.length) (h2 : l.length ≤ 12) (h3 : l ≠ [46]) (h4 : l ≠ [46, 46]) : nmB l = l.all okB := by
 unfold nmB
 rw [decide_eq_true h1, decide_eq_true h2, beq_eq_false_iff_ne.2 h3, beq_eq_false_iff_ne.2 h4]
 simp
theorem byte_at (s : ByteArray) {k : Nat} (h : k < s.size) : (((s[k]'h).toNat : Nat) : Int) = bat s.data.toList k := by
 unfold bat
 have h' : k < s.data.toList.length := by rw [← Lib.size_eq]; exact h
 have : s.data.toList.getD k 0 = s[k]'h := by simp only [List.getD, List.getElem?_eq_getElem h', Option.getD_some]; rfl
 rw [this]
theorem bytes_cell (w : World) (s : ByteArray) : ∀ i, i < s.data.toList.length → (Lib.bytesWorld w 5 s).cell? ⟨w.heap.size, i, none⟩ = some (.int .u8 (bat s.data.toList i)) := fun i hi =>
 Lib.bytesWorld_cell w 5 s i (by rw [Lib.size_eq]; exact hi)
theorem bytes_below (w : World) (s : ByteArray) : Below w.heap.size w (Lib.bytesWorld w 5 s) :=
 ⟨rfl, rfl, rfl, by rw [Lib.bytesWorld_size]; omega, fun k hk => Lib.bytesWorld_at_old w 5 s k hk⟩
theorem name_any (s : ByteArray) (w : World) : Calls Tryz.prog 94 #[.string s] w fun e w' => e = .returned (.bool (nmB s.data.toList)) ∧ Below w.heap.size w w' := by
 by_cases h1 : s.size < 1
 ·have k1 : (s.size : Int) < 1 := by omega
  go_enter Tryz.func94, Tryz.ntmps94
  go_wp2_with fail
  go_ret
  exact ⟨by rw [nmB_short (by rw [← Lib.size_eq]; omega)]; rfl, Below.refl _ _⟩
 have k1 : ¬ (s.size : Int) < 1 := by omega
 by_cases h2 : 12 < s.size
 ·have k2 : (12 : Int) < (s.size : Int) := by omega
  go_enter Tryz.func94, Tryz.ntmps94
  go_wp2_with fail
  go_ret
  exact ⟨by rw [nmB_long (by rw [← Lib.size_eq]; omega)]; rfl, Below.refl _ _⟩
 have k2 : ¬ (12 : Int) < (s.size : Int) := by omega
 by_cases h3 : s = ⟨#[46]⟩
 ·subst h3
  clear k1 k2 h1 h2
  go_enter Tryz.func94, Tryz.ntmps94
  go_wp2_with fail
  go_ret
  exact ⟨rfl, Below.refl _ _⟩
 by_cases h4 : s = ⟨#[46, 46]⟩
 ·subst h4
  clear k1 k2 h1 h2 h3
  go_enter Tryz.func94, Tryz.ntmps94
  go_wp2_with fail
  go_ret
  exact ⟨rfl, Below.refl _ _⟩
 have n3 : s.data.toList ≠ [46] := fun e => h3 (by rw [← tx_data s, e]; rfl)
 have n4 : s.data.toList ≠ [46, 46] := fun e => h4 (by rw [← tx_data s, e]; rfl)
 have m3 : (s.toList == [46]) = false := by rw [Lib.toList_data]; exact beq_eq_false_iff_ne.2 n3
 have m4 : (s.toList == [46, 46]) = false := by rw [Lib.toList_data]; exact beq_eq_false_iff_ne.2 n4
 have hnm := qH (nmB_all (l := s.data.toList) (by rw [← Lib.size_eq]; omega) (by rw [← Lib.size_eq]; omega) n3 n4)
 have hcv := Lib.run_convert_string_bytes (P := Tryz.prog) w 9 29 5 s Tryz.underlying9 Tryz.underlying29 Tryz.underlying5
 have hct := containsB_any (Lib.bytesWorld w 5 s) w.heap.size s.size (grownCap w s.size 0 5) s.data.toList (Lib.size_eq s).symm (by omega) (fun i hi => bytes_cell w s i (by rw [← Lib.size_eq]; exact hi))
 have HB := qH (bytes_below w s)
 clear h1 h2 h3 h4 n3 n4
 go_enter Tryz.func94, Tryz.ntmps94
 go_wp2_with fail
 refine hct.mono ?_
 rintro e w' ⟨rfl, rfl⟩
 go_wp2_with fail
 go_ret
 exact ⟨by rw [hnm.out]; simp, HB.out⟩
theorem rname_any (s : ByteArray) (w : World) : Calls Tryz.prog 89 #[.string s] w fun e w' => e = .returned (.bool (nmB s.data.toList)) ∧ w' = w := by
 by_cases h1 : s.size < 1
 ·have k1 : (s.size : Int) < 1 := by omega
  go_enter Tryz.func89, Tryz.ntmps89
  go_wp2_with fail
  go_ret
  exact ⟨by rw [nmB_short (by rw [← Lib.size_eq]; omega)]; rfl, rfl⟩
 have k1 : ¬ (s.size : Int) < 1 := by omega
 by_cases h2 : 12 < s.size
 ·have k2 : (12 : Int) < (s.size : Int) := by omega
  go_enter Tryz.func89, Tryz.ntmps89
  go_wp2_with fail
  go_ret
  exact ⟨by rw [nmB_long (by rw [← Lib.size_eq]; omega)]; rfl, rfl⟩
 have k2 : ¬ (12 : Int) < (s.size : Int) := by omega
 by_cases h3 : s = ⟨#[46]⟩
 ·subst h3
  clear k1 k2 h1 h2
  go_enter Tryz.func89, Tryz.ntmps89
  go_wp2_with fail
  go_ret
  exact ⟨rfl, rfl⟩
 by_cases h4 : s = ⟨#[46, 46]⟩
 ·subst h4
  clear k1 k2 h1 h2 h3
  go_enter Tryz.func89, Tryz.ntmps89
  go_wp2_with fail
  go_ret
  exact ⟨rfl, rfl⟩
 have n3 : s.data.toList ≠ [46] := fun e => h3 (by rw [← tx_data s, e]; rfl)
 have n4 : s.data.toList ≠ [46, 46] := fun e => h4 (by rw [← tx_data s, e]; rfl)
 have m3 : (s.toList == [46]) = false := by rw [Lib.toList_data]; exact beq_eq_false_iff_ne.2 n3
 have m4 : (s.toList == [46, 46]) = false := by rw [Lib.toList_data]; exact beq_eq_false_iff_ne.2 n4
 have hnm := qH (nmB_all (l := s.data.toList) (by rw [← Lib.size_eq]; omega) (by rw [← Lib.size_eq]; omega) n3 n4)
 have hsz := qH (Lib.size_eq s)
 clear h3 h4 n3 n4
 go_enter Tryz.func89, Tryz.ntmps89
 go_wp2_with fail
 go_loopw [3] (fun v wr => ∃ k : Nat, k ≤ s.size ∧ v = .int .i64 k ∧ wr = w ∧ OkTo s.data.toList k) (fun v _ => s.size - (RowKit.intOf v).toNat)
 case atStart => exact ⟨0, by omega, rfl, rfl, OkTo.zero _⟩
 case round =>
  obtain ⟨k, hk, rfl, rfl, hI⟩ := hrel
  have HI := qH hI
  clear hI
  by_cases hlt : k < s.size
  ·have k3 : (k : Int) < (s.size : Int) := by omega
   have k4 : (0 : Int) ≤ (k : Int) := by omega
   have hb := bat_ok s.data.toList k
   obtain ⟨x, hx⟩ : ∃ x, bat s.data.toList k = x := ⟨_, rfl⟩
   rw [hx] at hb
   have hat : (((s[k]'hlt).toNat : Nat) : Int) = x := by rw [← hx]; exact byte_at s hlt
   have hle : k < s.data.toList.length := by rw [← hsz.out]; exact hlt
   have HLE := qH hle; have HBB := qH hb; clear hb hx hle
   by_cases h0 : x = 0
   ·have q0 : (x == 0) = true := by rw [h0]; rfl
    clear h0; go_wp2_with fail; go_ret
    exact ⟨by rw [hnm.out, not_all HLE.out (by rw [HBB.out, q0]; rfl)]; rfl, rfl⟩
   have q0 : (x == 0) = false := beq_eq_false_iff_ne.2 h0
   by_cases h7 : x = 47
   ·have q7 : (x == 47) = true := by rw [h7]; rfl
    clear h0 h7; go_wp2_with fail; go_ret
    exact ⟨by rw [hnm.out, not_all HLE.out (by rw [HBB.out, q0, q7]; rfl)]; rfl, rfl⟩
   have q7 : (x == 47) = false := beq_eq_false_iff_ne.2 h7; clear h0 h7; go_wp2_with fail
   go_roundw
   case rel => exact ⟨k + 1, by omega, by go_num, trivial, HI.out.succ (by rw [HBB.out, q0, q7]; rfl)⟩
   case measure => simp [RowKit.intOf]; omega
  ·obtain rfl : k = s.size := by omega
   go_wp2_with fail; go_ret
   exact ⟨by rw [hnm.out, OkTo.all (by rw [← hsz.out]; exact HI.out)]; rfl, rfl⟩
theorem wrong_any (x : En) (w : World) : Calls Tryz.prog 151 #[env x] w fun e w' => e = .returned (.bool (!okE x)) ∧ Below w.heap.size w w' := by
 obtain ⟨s, i⟩ := x
 have hn := name_any s (w.alloc (.cells #[.string s, .int .i64 i] 77 (0, 0)))
 have hb0 : Below w.heap.size w (w.alloc (.cells #[.string s, .int .i64 i] 77 (0, 0))) := (Below.refl _ _).alloc (Nat.le_refl _) _
 have c1 : (w.alloc (.cells #[.string s, .int .i64 i] 77 (0, 0))).cell? ⟨w.heap.size, 1, none⟩ = some (.int .i64 i) := by simp
 have HB := qH hb0
 have C1 := qH c1
 have hok : okE ⟨s, i⟩ = (nmB s.data.toList && decide (1 ≤ i) && decide (i ≤ 56)) := rfl
 have HOK := qH hok
 clear hb0 c1 hok
 unfold env
 simp only
 cases hm : nmB s.data.toList with
 | false =>
  rw [hm] at hn
  go_enter Tryz.func151, Tryz.ntmps151
  go_wp2_with fail
  refine hn.mono ?_
  rintro e w2 ⟨rfl, hb2⟩
  have HB2 := qH (HB.out.trans (hb2.mono HB.out.size))
  clear hb2 hn
  go_wp2_with fail
  go_ret
  exact ⟨by rw [HOK.out, hm]; rfl, HB2.out⟩
 | true =>
  rw [hm] at hn
  by_cases h1 : i < 1
  ·go_enter Tryz.func151, Tryz.ntmps151
   go_wp2_with fail; refine hn.mono ?_; rintro e w2 ⟨rfl, hb2⟩; have HB2 := qH (HB.out.trans (hb2.mono HB.out.size)); have c1 := (hb2.cell (p := ⟨w.heap.size, 1, none⟩) (by simp)).trans C1.out; clear hb2 hn; go_wp2_with fail; go_ret
   exact ⟨by rw [HOK.out, hm, decide_eq_false (by omega : ¬ 1 ≤ i)]; rfl, HB2.out⟩
  ·by_cases h2 : 56 < i
   ·go_enter Tryz.func151, Tryz.ntmps151
    go_wp2_with fail; refine hn.mono ?_; rintro e w2 ⟨rfl, hb2⟩; have HB2 := qH (HB.out.trans (hb2.mono HB.out.size)); have c1 := (hb2.cell (p := ⟨w.heap.size, 1, none⟩) (by simp)).trans C1.out; clear hb2 hn; go_wp2_with fail; go_ret
    exact ⟨by rw [HOK.out, hm, decide_eq_false (by omega : ¬ i ≤ 56), Bool.and_false]; rfl, HB2.out⟩
   ·go_enter Tryz.func151, Tryz.ntmps151
    go_wp2_with fail; refine hn.mono ?_; rintro e w2 ⟨rfl, hb2⟩; have HB2 := qH (HB.out.trans (hb2.mono HB.out.size)); have c1 := (hb2.cell (p := ⟨w.heap.size, 1, none⟩) (by simp)).trans C1.out; clear hb2 hn; go_wp2_with fail; go_ret
    exact ⟨by rw [HOK.out, hm, decide_eq_true (by omega : 1 ≤ i), decide_eq_true (by omega : i ≤ 56)]; simp [h1, h2], HB2.out⟩
def Gives (g : FuncId) (lb : Array Value) (p : En → Bool) (w0 : World) : Prop :=
 ∀ (x : En) (w : World), Below w0.heap.size w0 w → Calls Tryz.prog g (#[env x] ++ lb) w fun e w' => e = .returned (.bool (p x)) ∧ Below w.heap.size w w'
def NoTo (p : En → Bool) (L : List En) (k : Nat) : Prop := ∀ j, j < k → p (eat L j) = false
theorem NoTo.zero (p : En → Bool) (L : List En) : NoTo p L 0 := fun j h => by omega
theorem NoTo.succ {p : En → Bool} {L : List En} {k : Nat} (h : NoTo p L k) (e : p (eat L k) = false) : NoTo p L (k + 1) := fun j hj => by
 by_cases hk : j = k
 ·rw [hk]; exact e
 ·exact h j (by omega)
def IxO (p : En → Bool) (L : List En) (r : Int) : Prop := (r = -1 ∧ NoTo p L L.length) ∨ ∃ k : Nat, k < L.length ∧ r = (k : Int) ∧ NoTo p L k ∧ p (eat L k) = true
theorem index_any (g : FuncId) (lb : Array Value) (eg : ∀ args w, (callFunc g args).run Tryz.prog w = .ok (.enter g args) w) (p : En → Bool) (w : World) (hg : Gives g lb p w) (a : Option Addr) (n c : Nat) (L : List En) (h : Ens w a n L) (hn : n ≤ 1000000000000) :
  Calls Tryz.prog 138 #[.slice a n c, .func (.func g) #[] lb] w fun e w' => ∃ r : Int, e = .returned (.int .i64 r) ∧ IxO p L r ∧ Below w.heap.size w w' := by
 have hl := h.len
 subst hl
 go_enter Tryz.func138, Tryz.ntmps138
 go_wp2_with fail
 go_loopw [5, 8] (fun _ v wr => ∃ k : Nat, k ≤ L.length ∧ v = .int .i64 k ∧ Below w.heap.size w wr ∧ NoTo p L k) (fun _ v _ => L.length - (RowKit.intOf v).toNat)
 case atStart => exact ⟨0, by omega, rfl, Below.refl _ _, NoTo.zero _ _⟩
 case round =>
  obtain ⟨k, hk, rfl, hB, hI⟩ := hrel
  have HI := qH hI
  have HB := qH hB
  by_cases hlt : k < L.length
  ·have k1 : (k : Int) < (L.length : Int) := by omega
   have k0 : (0 : Int) ≤ (k : Int) := by omega
   obtain ⟨b, off, rfl, hbl, hc1, hc2⟩ := h.at hlt; have x1 := (hB.cell (p := ⟨b, off + k * 2, none⟩) hbl).trans hc1; have x2 := (hB.cell (p := ⟨b, off + k * 2 + 1, none⟩) hbl).trans hc2; have hcall := hg (eat L k) wr hB; unfold env at hcall; clear hc1 hc2 h hB hI hg
   cases hb : p (eat L k) with
   | false =>
    rw [hb] at hcall
    go_wp2_with (go_at_fn g; refine hcall.mono ?_; rintro e w' ⟨rfl, hb'⟩)
    have HB2 := qH (HB.out.trans (hb'.mono HB.out.size)); clear hb' hcall
    go_roundw
    case rel => exact ⟨k + 1, by omega, by go_num, HB2.out, HI.out.succ hb⟩
    case measure => simp [RowKit.intOf]; omega
   | true =>
    rw [hb] at hcall
    go_wp2_with (go_at_fn g; refine hcall.mono ?_; rintro e w' ⟨rfl, hb'⟩)
    have HB2 := qH (HB.out.trans (hb'.mono HB.out.size)); clear hb' hcall; go_ret
    exact ⟨k, rfl, .inr ⟨k, hlt, rfl, HI.out, hb⟩, HB2.out⟩
  ·obtain rfl : k = L.length := by omega
   clear h hB hI hg; go_wp2_with fail; go_ret
   exact ⟨-1, rfl, .inl ⟨rfl, HI.out⟩, HB.out⟩
theorem IxO.any {p : En → Bool} {L : List En} {r : Int} (h : IxO p L r) : decide (0 ≤ r) = L.any p := by
 rcases h with ⟨rfl, h⟩ | ⟨k, hk, rfl, _, e⟩
 ·symm
  rw [show decide ((0 : Int) ≤ -1) = false from rfl, List.any_eq_false]
  intro x hx
  obtain ⟨i, hi, rfl⟩ := List.getElem_of_mem hx
  have := h i hi
  have e : L[i] = eat L i := by simp [eat, List.getD, hi]
  rw [e, this]; decide
 ·symm
  rw [decide_eq_true (by omega), List.any_eq_true]
  exact ⟨eat L k, eat_mem hk, e⟩
theorem contains_any (g : FuncId) (lb : Array Value) (eg : ∀ args w, (callFunc g args).run Tryz.prog w = .ok (.enter g args) w) (p : En → Bool) (w : World) (hg : Gives g lb p w) (a : Option Addr) (n c : Nat) (L : List En) (h : Ens w a n L) (hn : n ≤ 1000000000000) :
  Calls Tryz.prog 119 #[.slice a n c, .func (.func g) #[] lb] w fun e w' => e = .returned (.bool (L.any p)) ∧ Below w.heap.size w w' := by
 have hi := index_any g lb eg p w hg a n c L h hn
 clear hg h
 go_enter Tryz.func119, Tryz.ntmps119
 go_wp2_with fail
 refine hi.mono ?_
 rintro e w' ⟨r, rfl, hr, hb⟩
 have hr' := hr.any
 have HB := qH hb
 clear hr hb hi
 go_wp2_with fail
 go_ret
 exact ⟨by rw [← hr']; rfl, HB.out⟩
theorem enters_wrong (args : Array Value) (w : World) : (callFunc 151 args).run Tryz.prog w = .ok (.enter 151 args) w := enters_of (P := Tryz.prog) Tryz.func151 (by kernel_rfl) rfl args w
theorem gives_wrong (w : World) : Gives 151 #[] (fun x => !okE x) w := fun x w' _ => wrong_any x w'
theorem any_wrong (L : List En) : (L.any fun x => !okE x) = !(L.all okE) := by
 induction L with
 | nil => rfl
 | cons x L ih => rw [List.any_cons, List.all_cons, ih, Bool.not_and]
theorem areRight_any (a : Option Addr) (n c : Nat) (L : List En) (w : World) (h : Ens w a n L) (hn : n ≤ 1000000000000) :
  Calls Tryz.prog 136 #[.slice a n c] w fun e w' => e = .returned (.bool (rgt L)) ∧ Below w.heap.size w w' := by
 have hl := h.len
 subst hl
 by_cases h64 : 64 < L.length
 ·have k1 : (64 : Int) < (L.length : Int) := by omega
  have hr := qH (rgt_long h64)
  clear h h64
  go_enter Tryz.func136, Tryz.ntmps136
  go_wp2_with fail
  go_ret
  exact ⟨by rw [hr.out]; rfl, Below.refl _ _⟩
 have k1 : ¬ (64 : Int) < (L.length : Int) := by omega
 have hct := contains_any _ #[] enters_wrong _ w (gives_wrong w) a L.length c L h hn
 rw [any_wrong] at hct
 have HH := qH h
 clear h
 cases hw : L.all okE with
 | false =>
  rw [hw] at hct
  have hr := qH (rgt_bad hw)
  go_enter Tryz.func136, Tryz.ntmps136
  go_wp2_with fail
  refine hct.mono ?_
  rintro e w' ⟨rfl, hb⟩
  have HB := qH hb
  clear hct hb
  go_wp2_with fail
  go_ret
  exact ⟨by rw [hr.out]; rfl, HB.out⟩
 | true =>
  rw [hw] at hct
  have H64 := qH h64
  have HW := qH hw
  clear h64 hw
  go_enter Tryz.func136, Tryz.ntmps136
  go_wp2_with fail
  refine hct.mono ?_
  rintro e w1 ⟨rfl, hb⟩
  have HB := qH hb
  have HH1 := qH (HH.out.next hb)
  clear hct hb
  go_wp2_with fail
  go_loopw [3] (fun v wr => ∃ k q : Nat, 1 ≤ k ∧ (k ≤ L.length ∨ k = 1) ∧ v = .int .i64 k ∧ wr = w1.drewN q ∧ RisTo L k) (fun v _ => L.length - (RowKit.intOf v).toNat)
  case atStart => exact ⟨1, 0, by omega, by omega, rfl, rfl, RisTo.one _⟩
  case round =>
   obtain ⟨k, q, hk1, hk, rfl, rfl, hI⟩ := hrel; have HI := qH hI; clear hI
   by_cases hlt : k < L.length
   ·have k2 : (k : Int) < (L.length : Int) := by omega
    have k0 : (0 : Int) ≤ (k : Int) := by omega
    obtain ⟨m, rfl⟩ : ∃ m, k = m + 1 := ⟨k - 1, by omega⟩
    have hw1 : IntKind.i64.wrap (((m + 1 : Nat) : Int) - 1) = (m : Int) := by rw [show ((m + 1 : Nat) : Int) - 1 = (m : Int) by omega]; exact IntWalk.i64_in _ (by omega)
    obtain ⟨b, off, rfl, hbl, hc1, hc2⟩ := HH1.out.at (i := m) (by omega); obtain ⟨b', off', e', hbl', hd1, hd2⟩ := HH1.out.at (i := m + 1) (by omega)
    cases e'
    have k3 : (m : Int) < (L.length : Int) := by omega
    have k4 : (0 : Int) ≤ (m : Int) := by omega
    clear hc2 hd2 hbl hbl'
    cases hbt : Op.bytesLess (eat L m).s.toList (eat L (m + 1)).s.toList with
    | true =>
     have hbt' : blt (eat L m).s (eat L (m + 1)).s = true := hbt; have HBT := qH hbt'; clear hbt'; go_wp2_with fail
     go_quiet (fail)
     go_wp2_with fail
     go_roundw
     case rel => exact ⟨m + 1 + 1, q + nq, by omega, by omega, by go_num, rfl, HI.out.succ (fun j hj => (show j = m from Nat.succ.inj hj) ▸ HBT.out)⟩
     case measure => simp [RowKit.intOf]; omega
    | false =>
     have hr := qH (rgt_fall (not_ris hlt hbt)); go_wp2_with fail
     go_quiet (fail)
     go_wp2_with fail; go_ret
     exact ⟨by rw [hr.out]; rfl, below_drewN (below_drewN HB.out _) _⟩
   ·have k2 : ¬ (k : Int) < (L.length : Int) := by omega
    have hr : rgt L = true := rgt_yes (by have := H64.out; omega) HW.out (RisTo.ris (by
     intro j hj
     exact HI.out j (by omega)))
    have HR := qH hr; clear hr; go_wp2_with fail; go_ret
    exact ⟨by rw [HR.out]; rfl, below_drewN HB.out _⟩
theorem enters_find (args : Array Value) (w : World) : (callFunc 150 args).run Tryz.prog w = .ok (.enter 150 args) w := enters_of (P := Tryz.prog) Tryz.func150 (by kernel_rfl) rfl args w
theorem gives_find (b : Nat) (n : ByteArray) (w0 : World) (hlt : b < w0.heap.size) (hc : w0.cell? ⟨b, 0, none⟩ = some (.string n)) : Gives 150 #[.pointer (some ⟨b, 0, none⟩)] (fun x => !(blt x.s n)) w0 := by
 intro x w hb
 obtain ⟨s, i⟩ := x
 have c1 := (hb.cell (p := ⟨b, 0, none⟩) hlt).trans hc
 have hbs := hb.size
 have hb2 : b < w.heap.size := by omega
 have HB := qH ((Below.refl w.heap.size w).alloc (Nat.le_refl _) (.cells #[.string s, .int .i64 i] 77 (0, 0)))
 unfold env
 simp only
 show Calls Tryz.prog 150 #[.agg #[.string s, .int .i64 i], .pointer (some ⟨b, 0, none⟩)] w _
 clear hb hc hlt hbs
 go_enter Tryz.func150, Tryz.ntmps150
 go_wp2_with fail
 go_ret
 exact ⟨rfl, HB.out⟩
theorem IxO.fix {L : List En} {n : ByteArray} {r : Int} (h : IxO (fun x => !(blt x.s n)) L r) : (r = -1 ∧ efix L n = L.length) ∨ (efix L n < L.length ∧ r = (efix L n : Int)) := by
 rcases h with ⟨rfl, h⟩ | ⟨k, hk, rfl, h, e⟩
 ·refine .inl ⟨rfl, LowTo.none fun j hj => ?_⟩
  have := h j hj
  simpa using this
 ·have hl : LowTo L n k := fun j hj => by
   have := h j hj
   simpa using this
  have hf := hl.here hk (by simpa using e)
  refine .inr ?_
  rw [hf]
  exact ⟨hk, rfl⟩
theorem find_any (a : Option Addr) (n c : Nat) (L : List En) (s : ByteArray) (w : World) (h : Ens w a n L) (hn : n ≤ 1000000000000) :
  Calls Tryz.prog 132 #[.slice a n c, .string s] w fun e w' => e = .returned (.tuple #[.int .i64 (efix L s), .bool (ehas L s)]) ∧ Below w.heap.size w w' := by
 have hl := h.len
 subst hl
 have hb0 : Below w.heap.size w (w.alloc (.cells #[.string s] 9 (0, 0))) := (Below.refl _ _).alloc (Nat.le_refl _) _
 have hix := index_any _ #[.pointer (some ⟨w.heap.size, 0, none⟩)] enters_find _ (w.alloc (.cells #[.string s] 9 (0, 0))) (gives_find w.heap.size s _ (by simp) (by simp)) a L.length c L (h.next hb0) hn
 have HB := qH hb0
 have HH := qH h
 clear h hb0
 go_enter Tryz.func132, Tryz.ntmps132
 go_wp2_with fail
 refine hix.mono ?_
 rintro e w1 ⟨r, rfl, hr, hb1⟩
 have c1 := hb1.cell (p := ⟨w.heap.size, 0, none⟩) (by simp)
 rw [show (w.alloc (.cells #[.string s] 9 (0, 0))).cell? ⟨w.heap.size, 0, none⟩ = some (.string s) by simp] at c1
 have hB1 := HB.out.trans (hb1.mono HB.out.size)
 have HB1 := qH hB1
 have HH1 := HH.out.next hB1
 rcases hr.fix with ⟨rfl, hf⟩ | ⟨hf, rfl⟩
 ·have hh := qH (ehas_none hf)
  have HF := qH hf
  clear hr hf HH1 c1 hb1 hB1 hix
  go_wp2_with fail
  go_ret2
  exact ⟨by rw [hh.out, HF.out]; rfl, HB1.out⟩
 ·obtain ⟨b, off, rfl, hbl, hd1, hd2⟩ := HH1.at hf
  have hh := qH (ehas_at hf)
  obtain ⟨k, hk⟩ : ∃ k, efix L s = k := ⟨_, rfl⟩
  rw [hk] at hf hd1 hd2 hh ⊢
  have HK := qH hk
  have k1 : (k : Int) < (L.length : Int) := by omega
  have k0 : (0 : Int) ≤ (k : Int) := by omega
  clear hr hb1 hB1 hix HH1 hbl hd2 hk hf
  go_wp2_with fail
  go_quiet (fail)
  go_wp2_with fail
  go_ret2
  exact ⟨by rw [hh.out, HK.out]; rfl, below_drewN HB1.out _⟩
theorem ehas_low {L : List En} {s : ByteArray} {k : Nat} (h : LowTo L s k) (hk : k < L.length) (e : blt (eat L k).s s = false) : efix L s = k ∧ ehas L s = beqS (eat L k).s s := by
 have hf := h.here hk e
 refine ⟨hf, ?_⟩
 have := ehas_at (L := L) (n := s) (by omega)
 rwa [hf] at this
theorem rfind_any (a : Option Addr) (n c : Nat) (L : List En) (s : ByteArray) (w : World) (h : Ens w a n L) (hn : n ≤ 1000000000000) :
  Calls Tryz.prog 117 #[.slice a n c, .string s] w fun e w' => e = .returned (.tuple #[.int .i64 (efix L s), .bool (ehas L s)]) ∧ Below w.heap.size w w' := by
 have hl := h.len
 subst hl
 have HH := qH h
 clear h
 go_enter Tryz.func117, Tryz.ntmps117
 go_wp2_with fail
 go_loopw [6] (fun v wr => ∃ k : Nat, k ≤ L.length ∧ v = .int .i64 k ∧ wr = w ∧ LowTo L s k) (fun v _ => L.length - (RowKit.intOf v).toNat)
 case atStart => exact ⟨0, by omega, rfl, rfl, LowTo.zero _ _⟩
 case round =>
  obtain ⟨k, hk, rfl, rfl, hI⟩ := hrel
  have HI := qH hI
  clear hI
  by_cases hlt : k < L.length
  ·have k1 : (k : Int) < (L.length : Int) := by omega
   have k0 : (0 : Int) ≤ (k : Int) := by omega
   obtain ⟨b, off, rfl, hbl, hd1, hd2⟩ := HH.out.at hlt; clear hbl hd2
   cases hbt : Op.bytesLess (eat L k).s.toList s.toList with
   | true =>
    have hbt' : blt (eat L k).s s = true := hbt; have HBT := qH hbt'; clear hbt'; go_wp2_with fail
    go_roundw
    case rel => exact ⟨k + 1, by omega, by go_num, trivial, HI.out.succ HBT.out⟩
    case measure => simp [RowKit.intOf]; omega
   | false =>
    obtain ⟨e1, e2⟩ := ehas_low HI.out hlt hbt; have E1 := qH e1; have E2 := qH e2; clear e1 e2; go_wp2_with fail
    go_quiet (fail)
    go_wp2_with fail
    go_ret2
    exact ⟨by rw [E1.out, E2.out]; rfl, below_drewN (Below.refl _ _) _⟩
  ·obtain rfl : k = L.length := by omega
   have hf := HI.out.none; have HF := qH hf; have hh := qH (ehas_none hf)
   have k1 : ¬ (L.length : Int) < (L.length : Int) := by omega
   clear hf; go_wp2_with fail
   go_quiet (fail)
   go_wp2_with fail
   go_ret2
   exact ⟨by rw [HF.out, hh.out]; rfl, below_drewN (Below.refl _ _) _⟩
theorem clone_any (s : ByteArray) (w : World) (hs : s.size ≤ 281474976710656) : Calls Tryz.prog 59 #[.string s] w fun e w' => e = .returned (.string s) ∧ Below w.heap.size w w' := by
 have hc : Calls Tryz.prog 95 #[.string s] w fun e w' => e = .returned (.string s) ∧ Below w.heap.size w w' := Any.stringslite_Clone laysM316 s w hs
 go_enter Tryz.func59, Tryz.ntmps59
 go_wp2_with fail
 refine hc.mono ?_
 rintro e w' ⟨rfl, hb⟩
 go_wp2_with fail
 go_ret
 exact ⟨rfl, hb⟩
theorem take_snoc {L : List En} {k : Nat} (h : k < L.length) : L.take k ++ [eat L k] = L.take (k + 1) := by
 rw [List.take_add_one, eat_get h]; rfl
def Fit (L : List En) : Prop := ∀ x ∈ L, x.s.size ≤ 1000000
theorem Fit.at {L : List En} (h : Fit L) {k : Nat} (hk : k < L.length) : (eat L k).s.size ≤ 281474976710656 := Nat.le_trans (h _ (eat_mem hk)) (by decide)
theorem copies_any (a : Option Addr) (n c : Nat) (L : List En) (w : World) (h : Ens w a n L) (hn : n ≤ 1000000) (hs : Fit L) :
  Calls Tryz.prog 146 #[.slice a n c] w fun e w' => ∃ v, e = .returned v ∧ OwnE w' w.heap.size v n L ∧ Below w.heap.size w w' := by
 have hl := h.len
 subst hl
 have HH := qH h
 have HS := qH hs
 clear h hs
 go_enter Tryz.func146, Tryz.ntmps146
 go_wp2_with fail
 go_loopw [3, 5, 8] (fun v3 _ v8 wr => ∃ k : Nat, k ≤ L.length ∧ v8 = .int .i64 k ∧ OwnE wr w.heap.size v3 k (L.take k) ∧ Below w.heap.size w wr) (fun _ _ v _ => L.length - (RowKit.intOf v).toNat)
 case atStart => exact ⟨0, by omega, rfl, ownE_nil _ _, Below.refl _ _⟩
 case round =>
  obtain ⟨k, hk, rfl, hO, hB⟩ := hrel
  have HB := qH hB
  have HO := qH hO
  by_cases hlt : k < L.length
  ·have k1 : (k : Int) < (L.length : Int) := by omega
   have k0 : (0 : Int) ≤ (k : Int) := by omega
   obtain ⟨b, off, rfl, hbl, hd1, hd2⟩ := (HH.out.next hB).at hlt; have hcl := clone_any (eat L k).s (wr.alloc (.cells #[.string (eat L k).s, .int .i64 (eat L k).i] 77 (0, 0))) (HS.out.at hlt); obtain ⟨va, vc, rfl, _, _, _, _, hlo⟩ := hO.ens; clear hO hB hlo hbl; go_wp2_with fail; refine hcl.mono ?_; rintro e w2 ⟨rfl, hb2⟩; have hb1 : Below wr.heap.size wr (wr.alloc (.cells #[.string (eat L k).s, .int .i64 (eat L k).i] 77 (0, 0))) := (Below.refl _ _).alloc (Nat.le_refl _) _; have hbw : Below wr.heap.size wr w2 := hb1.trans (hb2.mono hb1.size); have c0 := hb2.cell (p := ⟨wr.heap.size, 0, none⟩) (by simp); have c1 := hb2.cell (p := ⟨wr.heap.size, 1, none⟩) (by simp); have f0 := hb2.frozen (p := ⟨wr.heap.size, 0, none⟩) (by simp); rw [show (wr.alloc (.cells #[.string (eat L k).s, .int .i64 (eat L k).i] 77 (0, 0))).cell? ⟨wr.heap.size, 0, none⟩ = some (.string (eat L k).s) by simp] at c0; rw [show (wr.alloc (.cells #[.string (eat L k).s, .int .i64 (eat L k).i] 77 (0, 0))).cell? ⟨wr.heap.size, 1, none⟩ = some (.int .i64 (eat L k).i) by simp] at c1; rw [show (wr.alloc (.cells #[.string (eat L k).s, .int .i64 (eat L k).i] 77 (0, 0))).frozen? ⟨wr.heap.size, 0, none⟩ = false by simp] at f0
   have hb3 : Below wr.heap.size wr ((w2.setCell ⟨wr.heap.size, 0, none⟩ (.string (eat L k).s)).alloc (.cells #[.string (eat L k).s, .int .i64 (eat L k).i] 77 (0, 0))) :=
    (hbw.setCell (p := ⟨wr.heap.size, 0, none⟩) (Nat.le_refl _) _).alloc (by simpa using hbw.size) _
   have HO3 := qH (HO.out.next hb3); have HB3 := qH (HB.out.trans (hb3.mono HB.out.size)); have HM := qH (ens_one (w := w2.setCell ⟨wr.heap.size, 0, none⟩ (.string (eat L k).s)) (g := w2.heap.size) (eat L k).s (eat L k).i (by simp))
   have hsz : w.heap.size ≤ w2.heap.size + 1 := by have := HB.out.size; have := hbw.size; omega
   clear hb1 hb2 hbw hb3 hcl
   go_wp2_with (at_builtin; go_must (refine wpList_ape rfl (.tmp 16) (.tmp 18) rfl w.heap.size _ k (L.take k) rfl HO3.out (some ⟨w2.heap.size, 0, none⟩) 1 1 [eat L k] rfl HM.out (fun h => by cases h) (by omega) (by simpa using hsz) w HB3.out ?_); intro v4 w4 ho4 hb4)
   rw [take_snoc hlt] at ho4; have HO4 := qH ho4; have HB4 := qH hb4; clear ho4 hb4
   go_roundw
   case rel => exact ⟨k + 1, by omega, by go_num, HO4.out, HB4.out⟩
   case measure => simp [RowKit.intOf]; omega
  ·obtain rfl : k = L.length := by omega
   have k1 : ¬ (L.length : Int) < (L.length : Int) := by omega
   rw [List.take_of_length_le (Nat.le_refl _)] at hO; have HO2 := qH hO; clear hO hB; go_wp2_with fail; go_ret
   exact ⟨_, rfl, HO2.out, HB.out⟩
theorem copyE_any (a : Option Addr) (n c : Nat) (L : List En) (w : World) (h : Ens w a n L) (hn : n ≤ 1000000) (hz : a = none → n = 0 ∧ c = 0) :
  Calls Tryz.prog 35 #[.slice a n c] w fun e w' => ∃ v, e = .returned v ∧ OwnE w' w.heap.size v n L ∧ Below w.heap.size w w' := by
 have HH := qH (h.alloc (.cells #[] 77))
 have HO := qH (ownE_none w w.heap.size (Nat.le_refl _))
 have HB := qH ((Below.refl w.heap.size w).alloc (Nat.le_refl _) (.cells #[] 77))
 have HZ := qH hz
 clear h hz
 go_enter Tryz.func35, Tryz.ntmps35
 go_wp2_with (at_builtin; go_must (refine wpList_ape rfl (.tmp 5) (.tmp 6) rfl w.heap.size _ 0 [] rfl HO.out a n c L rfl HH.out HZ.out (by omega) (by simp) w HB.out ?_); intro v4 w4 ho4 hb4)
 rw [Nat.zero_add, List.nil_append] at ho4
 have HO4 := qH ho4
 have HB4 := qH hb4
 clear ho4 hb4
 go_wp2_with fail
 go_ret
 exact ⟨_, rfl, HO4.out, HB4.out⟩
def sameE (x y : List En) : Bool := decide (x = y)
theorem sameE_len {x y : List En} (h : x.length ≠ y.length) : sameE x y = false := decide_eq_false fun e => h (by rw [e])
theorem sameE_at {x y : List En} {i : Nat} (h : eat x i ≠ eat y i) : sameE x y = false := decide_eq_false fun e => h (by rw [e])
def FrontE (x y : List En) (k : Nat) : Prop := ∀ j, j < k → eat x j = eat y j
theorem FrontE.zero (x y : List En) : FrontE x y 0 := fun _ h => by omega
theorem FrontE.succ {x y : List En} {k : Nat} (h : FrontE x y k) (e : eat x k = eat y k) : FrontE x y (k + 1) := fun j hj => by
 by_cases hk : j = k
 ·rw [hk]; exact e
 ·exact h j (by omega)
theorem FrontE.all {x y : List En} {n : Nat} (hx : x.length = n) (hy : y.length = n) (h : FrontE x y n) : sameE x y = true :=
 decide_eq_true (eat_ext (by omega) fun i hi => h i (by omega))
theorem sameE_any (a b : Option Addr) (n m ca cb : Nat) (x y : List En) (w : World) (hx : Ens w a n x) (hy : Ens w b m y) (hn : n ≤ 1000000000000) (hm : m ≤ 1000000000000) :
  Calls Tryz.prog 44 #[.slice a n ca, .slice b m cb] w fun e w' => e = .returned (.bool (sameE x y)) ∧ Below w.heap.size w w' := by
 by_cases hl : n = m
 ·subst hl
  have HX := qH hx
  have HY := qH hy
  clear hx hy
  go_enter Tryz.func44, Tryz.ntmps44
  go_wp2_with fail
  go_loopw [5] (fun v wr => ∃ k q : Nat, k ≤ n ∧ v = .int .i64 k ∧ wr = w.drewN q ∧ FrontE x y k) (fun v _ => n - (RowKit.intOf v).toNat)
  case atStart => exact ⟨0, 0, by omega, rfl, rfl, FrontE.zero _ _⟩
  case round =>
   obtain ⟨k, q, hk, rfl, rfl, hF⟩ := hrel; have HF := qH hF; clear hF
   by_cases hlt : k < n
   ·have k1 : (k : Int) < (n : Int) := by omega
    have k0 : (0 : Int) ≤ (k : Int) := by omega
    obtain ⟨b1, o1, rfl, _, x1, x2⟩ := HX.out.at hlt; obtain ⟨b2, o2, rfl, _, y1, y2⟩ := HY.out.at hlt
    obtain ⟨s1, e1⟩ : ∃ s, (eat x k).s = s := ⟨_, rfl⟩
    obtain ⟨s2, e2⟩ : ∃ s, (eat y k).s = s := ⟨_, rfl⟩
    obtain ⟨i1, e3⟩ : ∃ s, (eat x k).i = s := ⟨_, rfl⟩
    obtain ⟨i2, e4⟩ : ∃ s, (eat y k).i = s := ⟨_, rfl⟩
    rw [e1] at x1; rw [e3] at x2; rw [e2] at y1; rw [e4] at y2; have E1 := qH e1; have E2 := qH e2; have E3 := qH e3; have E4 := qH e4; clear e1 e2 e3 e4
    cases hs : (s1.toList == s2.toList) with
    | true =>
     have hse := qH (beqS_iff.1 (show beqS s1 s2 = true from hs))
     cases hi : (i1 == i2) with
     | true =>
      have hie := qH (beq_iff_eq.1 hi); go_wp2_with fail
      go_quiet (fail)
      go_wp2_with fail
      go_roundw
      case rel => exact ⟨k + 1, q + nq, by omega, by go_num, by rw [← World.drewN_drewN], HF.out.succ (En.ext' (by rw [E1.out, E2.out, hse.out]) (by rw [E3.out, E4.out, hie.out]))⟩
      case measure => simp [RowKit.intOf]; omega
     | false =>
      have hie := qH (beq_eq_false_iff_ne.1 hi); go_wp2_with fail
      go_quiet (fail)
      go_wp2_with fail; go_ret
      exact ⟨by rw [sameE_at (i := k) (fun e => hie.out (by rw [← E3.out, ← E4.out, e]))]; rfl, below_drewN (below_drewN (Below.refl _ _) _) _⟩
    | false =>
     have hse := qH (show s1 ≠ s2 from fun e => by rw [e] at hs; have h2 : beqS s2 s2 = false := hs; rw [beqS_refl] at h2; cases h2); go_wp2_with fail
     go_quiet (fail)
     go_wp2_with fail; go_ret
     exact ⟨by rw [sameE_at (i := k) (fun e => hse.out (by rw [← E1.out, ← E2.out, e]))]; rfl, below_drewN (below_drewN (Below.refl _ _) _) _⟩
   ·obtain rfl : k = n := by omega
    have k1 : ¬ (k : Int) < (k : Int) := by omega
    have hr := qH (FrontE.all HX.out.len HY.out.len HF.out); go_wp2_with fail; go_ret
    exact ⟨by rw [hr.out]; rfl, below_drewN (Below.refl _ _) _⟩
 ·have hr := qH (sameE_len (x := x) (y := y) (by rw [hx.len, hy.len]; exact hl))
  have hne : ((n : Int) != (m : Int)) = true := by simp; omega
  clear hx hy
  go_enter Tryz.func44, Tryz.ntmps44
  go_wp2_with fail
  go_ret
  exact ⟨by rw [hr.out]; rfl, Below.refl _ _⟩
def RowE (w : World) (g : Nat) (cur : List Value) : Prop := w.heap[g]? = some (.cells cur.toArray 77 (0, 0))
theorem RowE.lt {w : World} {g : Nat} {cur : List Value} (h : RowE w g cur) : g < w.heap.size := lt_of_block h
theorem RowE.cell {w : World} {g : Nat} {cur : List Value} (h : RowE w g cur) {j : Nat} {u : Value} (hj : cur[j]? = some u) : w.cell? ⟨g, j, none⟩ = some u := by
 rw [cell_of_row w g j _ _ (0, 0) h]
 simpa using hj
theorem RowE.below {w w' : World} {g B : Nat} {cur : List Value} (h : RowE w g cur) (hb : Below B w w') (hB : g < B) : RowE w' g cur := (hb.block g hB).trans h
theorem RowE.drew {w : World} {g : Nat} {cur : List Value} (h : RowE w g cur) : RowE w.drew g cur := h
theorem RowE.own {w : World} {B g n c : Nat} {cur : List Value} {L : List En} (h : RowE w g cur) (hB : B ≤ g) (hn : n ≤ c) (hc : c ≤ maxLen) (hs : cur.length = c * 2) (hl : L.length = n) (ht : cur.take (n * 2) = L.flatMap ecl) : OwnE w B (.slice (some ⟨g, 0, none⟩) n c) n L :=
 ⟨by rw [eflat_len, hl], .inr ⟨g, c, cur.toArray, rfl, hB, h, hn, hc, by simpa using hs, by simpa using ht⟩⟩
theorem OwnE.row {w : World} {B n : Nat} {v : Value} {L : List En} (h : OwnE w B v n L) (hn : 0 < n) : ∃ g c cur, v = .slice (some ⟨g, 0, none⟩) n c ∧ RowE w g cur ∧ B ≤ g ∧ n ≤ c ∧ c ≤ maxLen ∧ cur.length = c * 2 ∧ cur.take (n * 2) = L.flatMap ecl := by
 rcases h.2 with ⟨rfl, rfl⟩ | ⟨g, cap, cur, rfl, hb, hg, hnc, hm, hsz, htake⟩
 ·omega
 ·exact ⟨g, cap, cur.toList, rfl, by unfold RowE; simpa using hg, hb, hnc, hm, by simpa using hsz, htake⟩
structure Laid (w w' : World) (g : Nat) (cur : List Value) : Prop where
 row : RowE w' g cur
 oth : ∀ k, k ≠ g → w'.heap[k]? = w.heap[k]?
 bel : ∀ B w0, B ≤ g → Below B w0 w → Below B w0 w'
theorem run_copyE (w : World) (ty : TypeId) (g o dLen dCap : Nat) (a : Addr) (sLen sCap : Nat) (cur cs : List Value) (k : Nat) (hg : RowE w g cur) (hk : k = Nat.min sLen dLen) (hn : cs.length = k * 2)
  (hsrc : ∀ j v, cs[j]? = some v → w.cell? (a.add j) = some v) (hfit : o + cs.length ≤ cur.length) (h1 : ∀ v ∈ cs, v.oneCell' = true) :
  (Builtin.copy_ #[52, 52] ty #[.slice (some ⟨g, o, none⟩) dLen dCap, .slice (some a) sLen sCap]).run Tryz.prog w = .ok (goInt k) (w.setRow g (splice cur o cs).toArray) := by
 obtain ⟨i0, hi, hz0, hz1, hz2⟩ := info_parts infoE
 have hl := run_loadCells_list (P := Tryz.prog) w a cs hsrc
 have hst := run_storeCells_at Tryz.prog g o _ cs 0 cur.toArray w hg (by simpa using hfit) h1
 rw [hn] at hl
 subst hk
 simp [Builtin.copy_, run_underlying Tryz.underlying52, Builtin.lenOf, Builtin.firstCells, sizeOf, typeInfo, hi, hz1, hl, hst, splice]
theorem laid_copy {w : World} {g o : Nat} {cur cs : List Value} (hg : RowE w g cur) : Laid w (w.setRow g (splice cur o cs).toArray) g (splice cur o cs) :=
 ⟨setRow_heap w g _ _ _ _ hg, fun k hk => setRow_other w g k _ hk, fun B w0 hB hb => hb.trans ⟨rfl, rfl, rfl, by simp [World.setRow], fun k hk => setRow_other w g k _ (by omega)⟩⟩
theorem wpList_copyE {w : World} {ops : Array Oper} {rest : List Oper} {o : Oper} {a : Act} {Q : Exit → Act → World → Prop} (hgd : o.guard = none) (d s : Operand)
  (ho : o.op = .call { callee := .builtin .copy, args := #[d, s], argTypes := #[52, 52] }) (g p dLen dCap : Nat) (ad : Addr) (sLen sCap : Nat) (hd : a.eval d = .slice (some ⟨g, p, none⟩) dLen dCap) (hs : a.eval s = .slice (some ad) sLen sCap)
  (cur cs : List Value) (k : Nat) (hg : RowE w g cur) (hk : k = Nat.min sLen dLen) (hn : cs.length = k * 2) (hsrc : ∀ j v, cs[j]? = some v → w.cell? (ad.add j) = some v) (hfit : p + cs.length ≤ cur.length) (h1 : ∀ v ∈ cs, v.oneCell' = true)
  (h : ∀ w', Laid w w' g (splice cur p cs) → wpList Tryz.prog ops Q rest (a.put o.dst (goInt k)) w') : wpList Tryz.prog ops Q (o :: rest) a w := by
 refine wpList_plain hgd fun K hK => ?_
 have hrun := run_copyE w o.type g p dLen dCap ad sLen sCap cur cs k hg hk hn hsrc hfit h1
 unfold Oper.wp
 simp [execOp, ho, resolve, invoke, builtin, hd, hs, hrun, Result.andThen]
 exact hK _ _ (h _ (laid_copy hg))
theorem step_copyE {ops : Array Oper} {o : Oper} {a : Act} {w : World} {K : Act → World → Prop} {Q : Exit → Act → World → Prop} {E : Prop} (hgd : o.guard = none) (d s : Operand)
  (ho : o.op = .call { callee := .builtin .copy, args := #[d, s], argTypes := #[52, 52] }) (g p dLen dCap : Nat) (ad : Addr) (sLen sCap : Nat) (hd : a.eval d = .slice (some ⟨g, p, none⟩) dLen dCap) (hs : a.eval s = .slice (some ad) sLen sCap)
  (cur cs : List Value) (k : Nat) (hg : RowE w g cur) (hk : k = Nat.min sLen dLen) (hn : cs.length = k * 2) (hsrc : ∀ j v, cs[j]? = some v → w.cell? (ad.add j) = some v) (hfit : p + cs.length ≤ cur.length) (h1 : ∀ v ∈ cs, v.oneCell' = true)
  (h : ∀ w', Laid w w' g (splice cur p cs) → K (a.put o.dst (goInt k)) w') :
  if Region.wanted o (yielded ops a.tmps) = true then Oper.wp Tryz.prog o a w K Q else E := by
 have hw : Region.wanted o (yielded ops a.tmps) = true := by simp [Region.wanted, hgd]
 rw [if_pos hw]
 have hrun := run_copyE w o.type g p dLen dCap ad sLen sCap cur cs k hg hk hn hsrc hfit h1
 unfold Oper.wp
 simp [execOp, ho, resolve, invoke, builtin, hd, hs, hrun, Result.andThen]
 exact h _ (laid_copy hg)
theorem wpList_apz {w : World} {ops : Array Oper} {rest : List Oper} {o : Oper} {a : Act} {Q : Exit → Act → World → Prop} (hgd : o.guard = none) (s x : Operand)
  (ho : o.op = .call { callee := .builtin .append, args := #[s, x], argTypes := #[52, 3] }) (g i c k : Nat) (hs : a.eval s = .slice (some ⟨g, 0, none⟩) i c) (hx : a.eval x = .int .i64 k)
  (olds : List Value) (hl : olds.length = i * 2) (hold : ∀ j v, olds[j]? = some v → w.cell? ⟨g, j, none⟩ = some v) (h0 : 0 < k) (m : Nat) (hm : i + k = m) (hroom : c < m) (hbig : m ≤ 1000000000)
  (h : ∀ (C : Nat) (cur : List Value) (w' : World), m ≤ C → C ≤ maxLen → RowE w' w.heap.size cur → cur.length = C * 2 → cur.take (i * 2) = olds → (∀ j, j < w.heap.size → w'.heap[j]? = w.heap[j]?) → (∀ B w0, B ≤ w.heap.size → Below B w0 w → Below B w0 w') →
   wpList Tryz.prog ops Q rest (a.put o.dst (.slice (some ⟨w.heap.size, 0, none⟩) m C)) w') : wpList Tryz.prog ops Q (o :: rest) a w := by
 subst hm
 obtain ⟨i0, hi, hz0, hz1, hz2⟩ := info_parts infoE
 have hf : (Builtin.firstCells i0.size i (.slice (some ⟨g, 0, none⟩) i c)).run Tryz.prog w.drew = .ok olds.toArray w.drew := by
  rw [hz1]
  exact run_firstCells_some w.drew 2 i ⟨g, 0, none⟩ i c olds hl (fun j v hj => by rw [add_e, Nat.zero_add]; exact hold j v hj)
 have hr := Lib.run_append_grow_zeros w 52 3 o.type 77 i0 _ .i64 .i64 Tryz.underlying52 Tryz.underlying3 hi hz0 (some ⟨g, 0, none⟩) i c olds hf k h0 (by rw [hz1]; decide) hroom (by omega) (by rw [hz2]; omega) (by rw [hz2]; exact growslice_fits hroom (by omega))
 refine Lib.wpList_append_run w hgd s x _ _ ho _ _ hs hx _ _ hr ?_
 obtain ⟨C, hC⟩ : ∃ C, C = grownCap w (i + k) c 77 := ⟨_, rfl⟩
 have hC1 : i + k ≤ C := by rw [hC]; exact grownCap_ge w _ _ _
 have hC2 : C ≤ maxLen := by rw [hC]; exact grownCap_le_maxLen w _ _ _ (by unfold maxLen; omega)
 rw [← hC]
 have hz : ∀ m, (Builtin.zeroCells (Value.agg #[.string ByteArray.empty, .int .i64 0]).cells m).size = m * 2 := fun m => size_zeroCells _ m
 obtain ⟨ROW, hROW⟩ : ∃ ROW : Array Value, ROW = olds.toArray ++ Builtin.zeroCells (Value.agg #[.string ByteArray.empty, .int .i64 0]).cells k ++ Builtin.zeroCells (Value.agg #[.string ByteArray.empty, .int .i64 0]).cells (C - (i + k)) := ⟨_, rfl⟩
 rw [← hROW]
 refine h C ROW.toList _ hC1 hC2 (by unfold RowE; rw [Array.toArray_toList]; exact heap_alloc_new w.drew _) ?_ ?_ (fun j hj => ?_) (fun B w0 hB hb => ?_)
 ·rw [hROW, Array.length_toList, Array.size_append, Array.size_append, hz, hz]
  simp [hl]
  omega
 ·rw [hROW, ← hl]
  simp
 ·exact (((Below.refl w.heap.size w.drew).alloc (Nat.le_refl _) _).block j hj)
 ·exact (hb.trans ⟨rfl, rfl, rfl, Nat.le_refl _, fun _ _ => rfl⟩ : Below B w0 w.drew).alloc hB _
theorem overlaps_no {w : World} {g vb p : Nat} {cur cv : List Value} (hg : RowE w g cur) (hv : RowE w vb cv) (hne : vb ≠ g) (h0 : cur.length ≠ 0) (l c lb cb : Nat) :
  (callFunc 159 #[.slice (some ⟨vb, 0, none⟩) l c, .slice (some ⟨g, p, none⟩) lb cb]).run Tryz.prog w = .ok (.value (.bool false)) w := by
 obtain ⟨i0, hi, hz0, hz1, hz2⟩ := info_parts infoE
 have hsz : ∀ w : World, (Go.sizeOf 77).run Tryz.prog w = .ok 2 w := fun w => by simp [sizeOf, typeInfo, hi, hz1]
 rw [run_callFunc_extern Tryz.func159 (by kernel_rfl) (by kernel_rfl) (by kernel_rfl) (e := Extern.SlicesOverlaps.overlaps #[52, 52] #[4]) (by kernel_rfl),
  Lib.run_overlaps_apart w 52 4 77 Tryz.underlying52 2 hsz ⟨vb, 0, none⟩ ⟨g, p, none⟩ l c lb cb hne 77 77 cv.toArray.size cur.toArray.size
   (by unfold World.shape?; rw [show w.heap[vb]? = _ from hv]) (by unfold World.shape?; rw [show w.heap[g]? = _ from hg]) (by simpa using h0) (frozen_of_row w vb _ _ _ hv) (frozen_of_row w vb _ _ _ hv)]
 rfl
end Go.Proofs.YtinholnidchblaaGreatDoor
