/-
  Name, of the program and of the document, by contract.
-/
import Derived.Test.YtiedapiepklhlaaDp
import Derived.Test.YtiedapiepklhlaaCopy
namespace Go.Proofs.Ytiedapiepklhlaa
open Go.RowKit
set_option linter.unusedVariables false
set_option linter.unusedSimpArgs false

/-- The byte at a place, as a number. -/
def bat (l : List UInt8) (i : Nat) : Int := ((l.getD i 0).toNat : Int)
theorem bat_ok (l : List UInt8) (i : Nat) : okB (l.getD i 0) = !(bat l i == 0 || bat l i == 47) := by
  unfold bat okB
  generalize l.getD i 0 = b
  have h0 : (b == 0) = ((b.toNat : Int) == 0) := by
    rw [Bool.eq_iff_iff, beq_iff_eq, beq_iff_eq]
    constructor
    · intro h; subst h; rfl
    · intro e
      exact UInt8.toNat_inj.1 (by rw [show (0 : UInt8).toNat = 0 from rfl]; omega)
  have h1 : (b == 47) = ((b.toNat : Int) == 47) := by
    rw [Bool.eq_iff_iff, beq_iff_eq, beq_iff_eq]
    constructor
    · intro h; subst h; rfl
    · intro e
      exact UInt8.toNat_inj.1 (by rw [show (47 : UInt8).toNat = 47 from rfl]; omega)
  rw [h0, h1]
  cases ((b.toNat : Int) == 0) <;> cases ((b.toNat : Int) == 47) <;> rfl

set_option maxHeartbeats 1000000 in
theorem bad_any (x : Int) (w : World) : Calls Try.prog 48 #[.int .u8 x] w fun e w' => e = .returned (.bool (x == 0 || x == 47)) ∧ w' = w := by
  go_enter Try.func48, Try.ntmps48
  go_wp2
  all_goals go_ret
  all_goals refine ⟨?_, rfl⟩
  · simp [*]
  · rfl
/-- The bytes ahead of place k are those of a name. -/
def OkTo (l : List UInt8) (k : Nat) : Prop := ∀ j, j < k → okB (l.getD j 0) = true
theorem OkTo.zero (l : List UInt8) : OkTo l 0 := fun j h => by omega
theorem OkTo.succ {l : List UInt8} {k : Nat} (h : OkTo l k) (e : okB (l.getD k 0) = true) : OkTo l (k + 1) := fun j hj => by
  by_cases hk : j = k
  · rw [hk]; exact e
  · exact h j (by omega)
theorem OkTo.all {l : List UInt8} (h : OkTo l l.length) : l.all okB = true := by
  rw [List.all_eq_true]
  intro x hx
  obtain ⟨i, hi, rfl⟩ := List.getElem_of_mem hx
  have := h i hi
  simpa [List.getD, hi] using this
theorem not_all {l : List UInt8} {k : Nat} (hk : k < l.length) (e : okB (l.getD k 0) = false) : l.all okB = false := by
  rw [List.all_eq_false]
  refine ⟨l.getD k 0, by simp [List.getD, hk], by rw [e]; decide⟩
def IxI (w0 : World) (l : List UInt8) (v8 : Value) (w : World) : Prop := ∃ k : Nat, k ≤ l.length ∧ v8 = .int .i64 k ∧ w = w0 ∧ OkTo l k
set_option maxHeartbeats 1000000 in
theorem indexB_any (w : World) (b n c : Nat) (l : List UInt8) (hl : l.length = n) (hn : n ≤ 1000000) (hc : ∀ i, i < n → w.cell? ⟨b, i, none⟩ = some (.int .u8 (bat l i))) :
    Calls Try.prog 50 #[.slice (some ⟨b, 0, none⟩) n c, .func (.func 48) #[] #[]] w fun e w' => ∃ r : Int, e = .returned (.int .i64 r) ∧ decide (0 ≤ r) = !(l.all okB) ∧ w' = w := by
  subst hl
  go_enter Try.func50, Try.ntmps50
  go_wp2_with (fail)
  go_loopw [5, 8] (fun _ v wr => IxI w l v wr) (fun _ v _ => l.length - (RowKit.intOf v).toNat)
  case atStart => exact ⟨0, by omega, rfl, rfl, OkTo.zero _⟩
  case round =>
    obtain ⟨k, hk, rfl, rfl, hI⟩ := hrel
    have HI := Lib.hid hI
    clear hI
    by_cases hlt : k < l.length
    · have k1 : (k : Int) < (l.length : Int) := by omega
      have k0 : (0 : Int) ≤ (k : Int) := by omega
      have x1 := hc k hlt
      clear hc
      cases hb : okB (l.getD k 0) with
      | true =>
        have hbb := bat_ok l k
        rw [hb] at hbb
        have hbf : (bat l k == 0 || bat l k == 47) = false := by simpa using hbb.symm
        have hcall := bad_any (bat l k) wr
        rw [hbf] at hcall
        clear hbb hbf
        go_wp2_with (fail)
        refine hcall.mono ?_
        rintro e w' ⟨rfl, rfl⟩
        go_wp2_with (fail)
        go_roundw
        case rel => exact ⟨k + 1, by omega, by go_num, rfl, HI.out.succ hb⟩
        case measure => simp [RowKit.intOf]; omega
      | false =>
        have hbb := bat_ok l k
        rw [hb] at hbb
        have hbf : (bat l k == 0 || bat l k == 47) = true := by
          cases h : (bat l k == 0 || bat l k == 47) with
          | true => rfl
          | false => rw [h] at hbb; cases hbb
        have hcall := bad_any (bat l k) wr
        rw [hbf] at hcall
        clear hbb hbf
        go_wp2_with (fail)
        refine hcall.mono ?_
        rintro e w' ⟨rfl, rfl⟩
        go_wp2_with (fail)
        go_ret
        exact ⟨k, rfl, by rw [not_all hlt hb]; simp, rfl⟩
    · obtain rfl : k = l.length := by omega
      clear hc
      go_wp2_with (fail)
      go_ret
      exact ⟨-1, rfl, by rw [HI.out.all]; rfl, rfl⟩
set_option maxHeartbeats 1000000 in
theorem containsB_any (w : World) (b n c : Nat) (l : List UInt8) (hl : l.length = n) (hn : n ≤ 1000000) (hc : ∀ i, i < n → w.cell? ⟨b, i, none⟩ = some (.int .u8 (bat l i))) :
    Calls Try.prog 47 #[.slice (some ⟨b, 0, none⟩) n c, .func (.func 48) #[] #[]] w fun e w' => e = .returned (.bool (!(l.all okB))) ∧ w' = w := by
  have hi := indexB_any w b n c l hl hn hc
  clear hc
  go_enter Try.func47, Try.ntmps47
  go_wp2_with (fail)
  refine hi.mono ?_
  rintro e w' ⟨r, rfl, hr, rfl⟩
  go_wp2_with (fail)
  go_ret
  exact ⟨by rw [← hr]; rfl, rfl⟩
theorem nmB_short {l : List UInt8} (h : l.length < 1) : nmB l = false := by unfold nmB; rw [decide_eq_false (by omega : ¬ 1 ≤ l.length)]; rfl
theorem nmB_long {l : List UInt8} (h : 12 < l.length) : nmB l = false := by unfold nmB; rw [decide_eq_false (by omega : ¬ l.length ≤ 12), Bool.and_false]; rfl
theorem nmB_all {l : List UInt8} (h1 : 1 ≤ l.length) (h2 : l.length ≤ 12) (h3 : l ≠ [46]) (h4 : l ≠ [46, 46]) : nmB l = l.all okB := by
  unfold nmB
  rw [decide_eq_true h1, decide_eq_true h2, beq_eq_false_iff_ne.2 h3, beq_eq_false_iff_ne.2 h4]
  simp
theorem byte_at (s : ByteArray) {k : Nat} (h : k < s.size) : (((s[k]'h).toNat : Nat) : Int) = bat s.data.toList k := by
  unfold bat
  have h' : k < s.data.toList.length := by rw [← Lib.size_eq]; exact h
  have : s.data.toList.getD k 0 = s[k]'h := by simp only [List.getD, List.getElem?_eq_getElem h', Option.getD_some]; rfl
  rw [this]
theorem bytes_cell (w : World) (s : ByteArray) : ∀ i, i < s.data.toList.length → (Lib.bytesWorld w 5 s).cell? ⟨w.heap.size, i, none⟩ = some (.int .u8 (bat s.data.toList i)) := fun i hi =>
  Lib.bytesWorld_cell w 5 s i (by rw [Lib.size_eq]; exact hi)
theorem bytes_below (w : World) (s : ByteArray) : Below w.heap.size w (Lib.bytesWorld w 5 s) :=
  ⟨rfl, rfl, rfl, by rw [Lib.bytesWorld_size]; omega, fun k hk => Lib.bytesWorld_at_old w 5 s k hk⟩
set_option maxHeartbeats 1000000 in
theorem name_any (s : ByteArray) (w : World) : Calls Try.prog 45 #[.string s] w fun e w' => e = .returned (.bool (nmB s.data.toList)) ∧ Below w.heap.size w w' := by
  by_cases h1 : s.size < 1
  · have k1 : (s.size : Int) < 1 := by omega
    go_enter Try.func45, Try.ntmps45
    go_wp2_with (fail)
    go_ret
    exact ⟨by rw [nmB_short (by rw [← Lib.size_eq]; omega)]; rfl, Below.refl _ _⟩
  have k1 : ¬ (s.size : Int) < 1 := by omega
  by_cases h2 : 12 < s.size
  · have k2 : (12 : Int) < (s.size : Int) := by omega
    go_enter Try.func45, Try.ntmps45
    go_wp2_with (fail)
    go_ret
    exact ⟨by rw [nmB_long (by rw [← Lib.size_eq]; omega)]; rfl, Below.refl _ _⟩
  have k2 : ¬ (12 : Int) < (s.size : Int) := by omega
  by_cases h3 : s = ⟨#[46]⟩
  · subst h3
    clear k1 k2 h1 h2
    go_enter Try.func45, Try.ntmps45
    go_wp2_with (fail)
    go_ret
    exact ⟨rfl, Below.refl _ _⟩
  by_cases h4 : s = ⟨#[46, 46]⟩
  · subst h4
    clear k1 k2 h1 h2 h3
    go_enter Try.func45, Try.ntmps45
    go_wp2_with (fail)
    go_ret
    exact ⟨rfl, Below.refl _ _⟩
  have n3 : s.data.toList ≠ [46] := fun e => h3 (by rw [← tx_data s, e]; rfl)
  have n4 : s.data.toList ≠ [46, 46] := fun e => h4 (by rw [← tx_data s, e]; rfl)
  have m3 : (s.toList == [46]) = false := by rw [Lib.toList_data]; exact beq_eq_false_iff_ne.2 n3
  have m4 : (s.toList == [46, 46]) = false := by rw [Lib.toList_data]; exact beq_eq_false_iff_ne.2 n4
  have hnm := Lib.hid (nmB_all (l := s.data.toList) (by rw [← Lib.size_eq]; omega) (by rw [← Lib.size_eq]; omega) n3 n4)
  have hcv := Lib.run_convert_string_bytes (P := Try.prog) w 9 23 5 s Try.underlying9 Try.underlying23 Try.underlying5
  have hct := containsB_any (Lib.bytesWorld w 5 s) w.heap.size s.size (grownCap w s.size 0 5) s.data.toList (Lib.size_eq s).symm (by omega) (fun i hi => bytes_cell w s i (by rw [← Lib.size_eq]; exact hi))
  have HB := Lib.hid (bytes_below w s)
  clear h1 h2 h3 h4 n3 n4
  go_enter Try.func45, Try.ntmps45
  go_wp2_with (fail)
  refine hct.mono ?_
  rintro e w' ⟨rfl, rfl⟩
  go_wp2_with (fail)
  go_ret
  exact ⟨by rw [hnm.out]; simp, HB.out⟩
set_option maxHeartbeats 1000000 in
theorem rname_any (s : ByteArray) (w : World) : Calls Try.prog 40 #[.string s] w fun e w' => e = .returned (.bool (nmB s.data.toList)) ∧ w' = w := by
  by_cases h1 : s.size < 1
  · have k1 : (s.size : Int) < 1 := by omega
    go_enter Try.func40, Try.ntmps40
    go_wp2_with (fail)
    go_ret
    exact ⟨by rw [nmB_short (by rw [← Lib.size_eq]; omega)]; rfl, rfl⟩
  have k1 : ¬ (s.size : Int) < 1 := by omega
  by_cases h2 : 12 < s.size
  · have k2 : (12 : Int) < (s.size : Int) := by omega
    go_enter Try.func40, Try.ntmps40
    go_wp2_with (fail)
    go_ret
    exact ⟨by rw [nmB_long (by rw [← Lib.size_eq]; omega)]; rfl, rfl⟩
  have k2 : ¬ (12 : Int) < (s.size : Int) := by omega
  by_cases h3 : s = ⟨#[46]⟩
  · subst h3
    clear k1 k2 h1 h2
    go_enter Try.func40, Try.ntmps40
    go_wp2_with (fail)
    go_ret
    exact ⟨rfl, rfl⟩
  by_cases h4 : s = ⟨#[46, 46]⟩
  · subst h4
    clear k1 k2 h1 h2 h3
    go_enter Try.func40, Try.ntmps40
    go_wp2_with (fail)
    go_ret
    exact ⟨rfl, rfl⟩
  have n3 : s.data.toList ≠ [46] := fun e => h3 (by rw [← tx_data s, e]; rfl)
  have n4 : s.data.toList ≠ [46, 46] := fun e => h4 (by rw [← tx_data s, e]; rfl)
  have m3 : (s.toList == [46]) = false := by rw [Lib.toList_data]; exact beq_eq_false_iff_ne.2 n3
  have m4 : (s.toList == [46, 46]) = false := by rw [Lib.toList_data]; exact beq_eq_false_iff_ne.2 n4
  have hnm := Lib.hid (nmB_all (l := s.data.toList) (by rw [← Lib.size_eq]; omega) (by rw [← Lib.size_eq]; omega) n3 n4)
  have hsz := Lib.hid (Lib.size_eq s)
  clear h3 h4 n3 n4
  go_enter Try.func40, Try.ntmps40
  go_wp2_with (fail)
  go_loopw [3] (fun v wr => ∃ k : Nat, k ≤ s.size ∧ v = .int .i64 k ∧ wr = w ∧ OkTo s.data.toList k) (fun v _ => s.size - (RowKit.intOf v).toNat)
  case atStart => exact ⟨0, by omega, rfl, rfl, OkTo.zero _⟩
  case round =>
    obtain ⟨k, hk, rfl, rfl, hI⟩ := hrel
    have HI := Lib.hid hI
    clear hI
    by_cases hlt : k < s.size
    · have k3 : (k : Int) < (s.size : Int) := by omega
      have k4 : (0 : Int) ≤ (k : Int) := by omega
      have hb := bat_ok s.data.toList k
      obtain ⟨x, hx⟩ : ∃ x, bat s.data.toList k = x := ⟨_, rfl⟩
      rw [hx] at hb
      have hat : (((s[k]'hlt).toNat : Nat) : Int) = x := by rw [← hx]; exact byte_at s hlt
      have hle : k < s.data.toList.length := by rw [← hsz.out]; exact hlt
      have HLE := Lib.hid hle
      have HBB := Lib.hid hb
      clear hb hx hle
      by_cases h0 : x = 0
      · have q0 : (x == 0) = true := by rw [h0]; rfl
        clear h0
        go_wp2_with (fail)
        go_ret
        exact ⟨by rw [hnm.out, not_all HLE.out (by rw [HBB.out, q0]; rfl)]; rfl, rfl⟩
      have q0 : (x == 0) = false := beq_eq_false_iff_ne.2 h0
      by_cases h7 : x = 47
      · have q7 : (x == 47) = true := by rw [h7]; rfl
        clear h0 h7
        go_wp2_with (fail)
        go_ret
        exact ⟨by rw [hnm.out, not_all HLE.out (by rw [HBB.out, q0, q7]; rfl)]; rfl, rfl⟩
      have q7 : (x == 47) = false := beq_eq_false_iff_ne.2 h7
      clear h0 h7
      go_wp2_with (fail)
      go_roundw
      case rel => exact ⟨k + 1, by omega, by go_num, trivial, HI.out.succ (by rw [HBB.out, q0, q7]; rfl)⟩
      case measure => simp [RowKit.intOf]; omega
    · obtain rfl : k = s.size := by omega
      go_wp2_with (fail)
      go_ret
      exact ⟨by rw [hnm.out, OkTo.all (by rw [← hsz.out]; exact HI.out)]; rfl, rfl⟩
end Go.Proofs.Ytiedapiepklhlaa
