/-
  The program's tests of entries: isWrong; slices.IndexFunc, slices.ContainsFunc and slices.DeleteFunc's closures, by contract.
-/
import Derived.Test.YtiedapiepklhlaaEs
import Derived.Test.YtiedapiepklhlaaNm
import Derived.Shelf.Abstract
namespace Go.Proofs.Ytiedapiepklhlaa
open Go.RowKit
set_option linter.unusedVariables false
set_option linter.unusedSimpArgs false

set_option maxHeartbeats 1000000 in
theorem wrong_any (x : En) (w : World) : Calls Try.prog 37 #[env x] w fun e w' => e = .returned (.bool (!okE x)) ∧ Below w.heap.size w w' := by
  obtain ⟨s, i⟩ := x
  have hn := name_any s (w.alloc (.cells #[.string s, .int .i64 i] 36 (0, 0)))
  have hb0 : Below w.heap.size w (w.alloc (.cells #[.string s, .int .i64 i] 36 (0, 0))) := (Below.refl _ _).alloc (Nat.le_refl _) _
  have c1 : (w.alloc (.cells #[.string s, .int .i64 i] 36 (0, 0))).cell? ⟨w.heap.size, 1, none⟩ = some (.int .i64 i) := by simp
  have HB := Lib.hid hb0
  have C1 := Lib.hid c1
  have hok : okE ⟨s, i⟩ = (nmB s.data.toList && decide (1 ≤ i) && decide (i ≤ 56)) := rfl
  have HOK := Lib.hid hok
  clear hb0 c1 hok
  unfold env
  simp only
  cases hm : nmB s.data.toList with
  | false =>
    rw [hm] at hn
    go_enter Try.func37, Try.ntmps37
    go_wp2_with (fail)
    refine hn.mono ?_
    rintro e w2 ⟨rfl, hb2⟩
    have HB2 := Lib.hid (HB.out.trans (hb2.mono HB.out.size))
    clear hb2 hn
    go_wp2_with (fail)
    go_ret
    exact ⟨by rw [HOK.out, hm]; rfl, HB2.out⟩
  | true =>
    rw [hm] at hn
    by_cases h1 : i < 1
    · go_enter Try.func37, Try.ntmps37
      go_wp2_with (fail)
      refine hn.mono ?_
      rintro e w2 ⟨rfl, hb2⟩
      have HB2 := Lib.hid (HB.out.trans (hb2.mono HB.out.size))
      have c1 := (hb2.cell (p := ⟨w.heap.size, 1, none⟩) (by simp)).trans C1.out
      clear hb2 hn
      go_wp2_with (fail)
      go_ret
      exact ⟨by rw [HOK.out, hm, decide_eq_false (by omega : ¬ 1 ≤ i)]; rfl, HB2.out⟩
    · by_cases h2 : 56 < i
      · go_enter Try.func37, Try.ntmps37
        go_wp2_with (fail)
        refine hn.mono ?_
        rintro e w2 ⟨rfl, hb2⟩
        have HB2 := Lib.hid (HB.out.trans (hb2.mono HB.out.size))
        have c1 := (hb2.cell (p := ⟨w.heap.size, 1, none⟩) (by simp)).trans C1.out
        clear hb2 hn
        go_wp2_with (fail)
        go_ret
        exact ⟨by rw [HOK.out, hm, decide_eq_false (by omega : ¬ i ≤ 56), Bool.and_false]; rfl, HB2.out⟩
      · go_enter Try.func37, Try.ntmps37
        go_wp2_with (fail)
        refine hn.mono ?_
        rintro e w2 ⟨rfl, hb2⟩
        have HB2 := Lib.hid (HB.out.trans (hb2.mono HB.out.size))
        have c1 := (hb2.cell (p := ⟨w.heap.size, 1, none⟩) (by simp)).trans C1.out
        clear hb2 hn
        go_wp2_with (fail)
        go_ret
        exact ⟨by rw [HOK.out, hm, decide_eq_true (by omega : 1 ≤ i), decide_eq_true (by omega : i ≤ 56)]; simp [h1, h2], HB2.out⟩

/-- What a closure answers: p, wherever all that lay in w0 lies still; it makes memory at most. -/
def Gives (g : FuncId) (lb : Array Value) (p : En → Bool) (w0 : World) : Prop :=
  ∀ (x : En) (w : World), Below w0.heap.size w0 w → Calls Try.prog g (#[env x] ++ lb) w fun e w' => e = .returned (.bool (p x)) ∧ Below w.heap.size w w'
/-- The first k entries don't meet p. -/
def NoTo (p : En → Bool) (L : List En) (k : Nat) : Prop := ∀ j, j < k → p (eat L j) = false
theorem NoTo.zero (p : En → Bool) (L : List En) : NoTo p L 0 := fun j h => by omega
theorem NoTo.succ {p : En → Bool} {L : List En} {k : Nat} (h : NoTo p L k) (e : p (eat L k) = false) : NoTo p L (k + 1) := fun j hj => by
  by_cases hk : j = k
  · rw [hk]; exact e
  · exact h j (by omega)
/-- IndexFunc's answer. -/
def IxO (p : En → Bool) (L : List En) (r : Int) : Prop := (r = -1 ∧ NoTo p L L.length) ∨ ∃ k : Nat, k < L.length ∧ r = (k : Int) ∧ NoTo p L k ∧ p (eat L k) = true
set_option maxHeartbeats 1000000 in
theorem index_any (g : FuncId) (lb : Array Value) (eg : ∀ args w, (callFunc g args).run Try.prog w = .ok (.enter g args) w) (p : En → Bool) (w : World) (hg : Gives g lb p w) (a : Option Addr) (n c : Nat) (L : List En) (h : Ens w a n L) (hn : n ≤ 1000000000000) :
    Calls Try.prog 29 #[.slice a n c, .func (.func g) #[] lb] w fun e w' => ∃ r : Int, e = .returned (.int .i64 r) ∧ IxO p L r ∧ Below w.heap.size w w' := by
  have hl := h.len
  subst hl
  go_enter Try.func29, Try.ntmps29
  go_wp2_with (fail)
  go_loopw [5, 8] (fun _ v wr => ∃ k : Nat, k ≤ L.length ∧ v = .int .i64 k ∧ Below w.heap.size w wr ∧ NoTo p L k) (fun _ v _ => L.length - (RowKit.intOf v).toNat)
  case atStart => exact ⟨0, by omega, rfl, Below.refl _ _, NoTo.zero _ _⟩
  case round =>
    obtain ⟨k, hk, rfl, hB, hI⟩ := hrel
    have HI := Lib.hid hI
    have HB := Lib.hid hB
    by_cases hlt : k < L.length
    · have k1 : (k : Int) < (L.length : Int) := by omega
      have k0 : (0 : Int) ≤ (k : Int) := by omega
      obtain ⟨b, off, rfl, hbl, hc1, hc2⟩ := h.at hlt
      have x1 := (hB.cell (p := ⟨b, off + k * 2, none⟩) hbl).trans hc1
      have x2 := (hB.cell (p := ⟨b, off + k * 2 + 1, none⟩) hbl).trans hc2
      have hcall := hg (eat L k) wr hB
      unfold env at hcall
      clear hc1 hc2 h hB hI hg
      cases hb : p (eat L k) with
      | false =>
        rw [hb] at hcall
        go_wp2_with (go_at_fn g; refine hcall.mono ?_; rintro e w' ⟨rfl, hb'⟩)
        have HB2 := Lib.hid (HB.out.trans (hb'.mono HB.out.size))
        clear hb' hcall
        go_roundw
        case rel => exact ⟨k + 1, by omega, by go_num, HB2.out, HI.out.succ hb⟩
        case measure => simp [RowKit.intOf]; omega
      | true =>
        rw [hb] at hcall
        go_wp2_with (go_at_fn g; refine hcall.mono ?_; rintro e w' ⟨rfl, hb'⟩)
        have HB2 := Lib.hid (HB.out.trans (hb'.mono HB.out.size))
        clear hb' hcall
        go_ret
        exact ⟨k, rfl, .inr ⟨k, hlt, rfl, HI.out, hb⟩, HB2.out⟩
    · obtain rfl : k = L.length := by omega
      clear h hB hI hg
      go_wp2_with (fail)
      go_ret
      exact ⟨-1, rfl, .inl ⟨rfl, HI.out⟩, HB.out⟩
theorem IxO.any {p : En → Bool} {L : List En} {r : Int} (h : IxO p L r) : decide (0 ≤ r) = L.any p := by
  rcases h with ⟨rfl, h⟩ | ⟨k, hk, rfl, _, e⟩
  · symm
    rw [show decide ((0 : Int) ≤ -1) = false from rfl, List.any_eq_false]
    intro x hx
    obtain ⟨i, hi, rfl⟩ := List.getElem_of_mem hx
    have := h i hi
    have e : L[i] = eat L i := by simp [eat, List.getD, hi]
    rw [e, this]; decide
  · symm
    rw [decide_eq_true (by omega), List.any_eq_true]
    exact ⟨eat L k, eat_mem hk, e⟩
set_option maxHeartbeats 1000000 in
theorem contains_any (g : FuncId) (lb : Array Value) (eg : ∀ args w, (callFunc g args).run Try.prog w = .ok (.enter g args) w) (p : En → Bool) (w : World) (hg : Gives g lb p w) (a : Option Addr) (n c : Nat) (L : List En) (h : Ens w a n L) (hn : n ≤ 1000000000000) :
    Calls Try.prog 36 #[.slice a n c, .func (.func g) #[] lb] w fun e w' => e = .returned (.bool (L.any p)) ∧ Below w.heap.size w w' := by
  have hi := index_any g lb eg p w hg a n c L h hn
  clear hg h
  go_enter Try.func36, Try.ntmps36
  go_wp2_with (fail)
  refine hi.mono ?_
  rintro e w' ⟨r, rfl, hr, hb⟩
  have hr' := hr.any
  have HB := Lib.hid hb
  clear hr hb hi
  go_wp2_with (fail)
  go_ret
  exact ⟨by rw [← hr']; rfl, HB.out⟩
end Go.Proofs.Ytiedapiepklhlaa
