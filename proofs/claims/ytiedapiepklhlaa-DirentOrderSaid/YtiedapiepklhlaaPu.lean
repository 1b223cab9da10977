/-
  Put of the program and of the document, by contract.
-/
import Derived.Test.YtiedapiepklhlaaIn
namespace Go.Proofs.Ytiedapiepklhlaa
open Go.RowKit
set_option linter.unusedVariables false
set_option linter.unusedSimpArgs false

theorem insert_any (B : Nat) (v : Value) (n i vb : Nat) (L : List En) (e : En) (w : World) (ho : OwnE w B v n L) (hB : B ≤ w.heap.size) (hv : RowE w vb (ecl e)) (hne : ∀ g, v.ownBlock = some g → vb ≠ g) (hi : i ≤ n) (hbig : n ≤ 1000000) :
    Calls Try.prog 33 #[v, .int .i64 i, .slice (some ⟨vb, 0, none⟩) 1 1] w (InsPost B w (n + 1) (L.take i ++ e :: L.drop i)) := by
  rcases Nat.lt_or_ge i n with h | h
  · obtain ⟨g, c, cur, rfl, hg, hBg, hnc, hcm, hs, ht⟩ := ho.row (by omega)
    by_cases hr : n + 1 ≤ c
    · exact insert_shift B g n c i vb cur L e w hg hBg hnc hcm hs ho.len ht hv (hne g rfl) h hr hbig
    · exact insert_grow B g n c i vb cur L e w hg hB hnc hcm hs ho.len ht hv h hr hbig
  · obtain rfl : i = n := by omega
    exact insert_end B v i vb L e w ho hB hv hbig
theorem eflat_set (L : List En) (k : Nat) (x : En) (hk : k < L.length) : ((L.flatMap ecl).set (k * 2) (.string x.s)).set (k * 2 + 1) (.int .i64 x.i) = (L.set k x).flatMap ecl := by
  induction L generalizing k with
  | nil => simp at hk
  | cons y L ih =>
    cases k with
    | zero => rfl
    | succ k =>
      have := ih k (by simpa using hk)
      have e : (k + 1) * 2 = k * 2 + 1 + 1 := by omega
      rw [e]
      show _ = ecl y ++ (L.set k x).flatMap ecl
      rw [← this]
      rfl
/-- An entry is laid in the place of another one. -/
theorem OwnE.set {w : World} {B g n c k : Nat} {L : List En} (h : OwnE w B (.slice (some ⟨g, 0, none⟩) n c) n L) (hk : k < n) (x : En) :
    OwnE ((w.setCell ⟨g, k * 2, none⟩ (.string x.s)).setCell ⟨g, k * 2 + 1, none⟩ (.int .i64 x.i)) B (.slice (some ⟨g, 0, none⟩) n c) n (L.set k x) := by
  have h1 := (World.ownsRow.stored h (k * 2) (.string x.s)).1
  have h2 := (World.ownsRow.stored h1 (k * 2 + 1) (.int .i64 x.i)).1
  rw [eflat_set L k x (by rw [h.len]; exact hk)] at h2
  exact h2
theorem Below.set2 {w0 w : World} {B g p q : Nat} {u v : Value} (h : Below B w0 w) (hB : B ≤ g) : Below B w0 ((w.setCell ⟨g, p, none⟩ u).setCell ⟨g, q, none⟩ v) := (h.setCell (p := ⟨g, p, none⟩) hB _).setCell (p := ⟨g, q, none⟩) hB _
theorem eput_len_has {L : List En} {x : En} (h : ehas L x.s = true) : (eput L x).length = L.length := by rw [eput_has h, List.length_set]
theorem eput_len_not {L : List En} {x : En} (h : ehas L x.s = false) : (eput L x).length = L.length + 1 := by
  have := efix_le L x.s
  rw [eput_not h, List.length_append, List.length_cons, List.length_take, List.length_drop]
  omega
theorem ehas_lt {L : List En} {s : ByteArray} (h : ehas L s = true) : efix L s < L.length := by
  unfold ehas at h
  rw [Bool.and_eq_true, decide_eq_true_eq] at h
  exact h.1
set_option maxHeartbeats 4000000 in
theorem put_any (a : Option Addr) (n c : Nat) (L : List En) (x : En) (w : World) (h : Ens w a n L) (hn : n ≤ 100000) (hs : Fit L) (hx : x.s.size ≤ 1000000) :
    Calls Try.prog 21 #[.slice a n c, env x] w (InsPost w.heap.size w (eput L x).length (eput L x)) := by
  obtain ⟨s, i⟩ := x
  have hb0 : Below w.heap.size w (w.alloc (.cells #[.string s, .int .i64 i] 36 (0, 0))) := (Below.refl _ _).alloc (Nat.le_refl _) _
  have hfi := find_any a n c L s (w.alloc (.cells #[.string s, .int .i64 i] 36 (0, 0))) (h.next hb0) (by omega)
  have HB := Lib.hid hb0
  have HH := Lib.hid h
  have HS := Lib.hid hs
  have HX := Lib.hid hx
  have hl := h.len
  clear h hs hb0
  unfold env
  simp only
  go_enter Try.func21, Try.ntmps21
  go_wp2_with (fail)
  refine hfi.mono ?_
  rintro e w1 ⟨rfl, hb1⟩
  have hB1 := HB.out.trans (hb1.mono HB.out.size)
  have hcp := copies_any a n c L w1 (HH.out.next hB1) (by omega) HS.out
  have c0 := hb1.cell (p := ⟨w.heap.size, 0, none⟩) (by simp)
  have c1 := hb1.cell (p := ⟨w.heap.size, 1, none⟩) (by simp)
  have f0 := hb1.frozen (p := ⟨w.heap.size, 0, none⟩) (by simp)
  rw [show (w.alloc (.cells #[.string s, .int .i64 i] 36 (0, 0))).cell? ⟨w.heap.size, 0, none⟩ = some (.string s) by simp] at c0
  rw [show (w.alloc (.cells #[.string s, .int .i64 i] 36 (0, 0))).cell? ⟨w.heap.size, 1, none⟩ = some (.int .i64 i) by simp] at c1
  rw [show (w.alloc (.cells #[.string s, .int .i64 i] 36 (0, 0))).frozen? ⟨w.heap.size, 0, none⟩ = false by simp] at f0
  have hwl : w.heap.size < w1.heap.size := Nat.lt_of_lt_of_le (by simp) hb1.size
  have HC := Lib.hid (And.intro c0 (And.intro c1 (And.intro f0 hwl)))
  have HB1 := Lib.hid hB1
  clear c0 c1 f0 hwl hB1 hb1 hfi
  go_wp2_with (fail)
  refine hcp.mono ?_
  rintro e w2 ⟨v, rfl, ho2, hb2⟩
  have hcl := clone_any s w2 (Nat.le_trans HX.out (by decide))
  have hwl := HC.out.2.2.2
  have d0 := (hb2.cell (p := ⟨w.heap.size, 0, none⟩) hwl).trans HC.out.1
  have HD := Lib.hid (And.intro ((hb2.cell (p := ⟨w.heap.size, 1, none⟩) hwl).trans HC.out.2.1) (And.intro ((hb2.frozen (p := ⟨w.heap.size, 0, none⟩) hwl).trans HC.out.2.2.1) d0))
  have HB2 := Lib.hid (HB1.out.trans (hb2.mono HB1.out.size))
  have HO2 := Lib.hid ho2
  have hwl2 := Nat.lt_of_lt_of_le hwl hb2.size
  have hw12 := hb2.size
  clear hb2 hcp ho2
  go_wp2_with (fail)
  refine hcl.mono ?_
  rintro e w3 ⟨rfl, hb3⟩
  have c0 := (hb3.cell (p := ⟨w.heap.size, 0, none⟩) hwl2).trans HD.out.2.2
  have c1 := (hb3.cell (p := ⟨w.heap.size, 1, none⟩) hwl2).trans HD.out.1
  have f0 := (hb3.frozen (p := ⟨w.heap.size, 0, none⟩) hwl2).trans HD.out.2.1
  have ho3 := HO2.out.next hb3
  have hB3 := HB2.out.trans (hb3.mono HB2.out.size)
  have ho4 : OwnE (w3.setCell ⟨w.heap.size, 0, none⟩ (.string s)) w1.heap.size v n L := ho3.setLow (p := ⟨w.heap.size, 0, none⟩) hwl _
  have hB4 : Below w.heap.size w (w3.setCell ⟨w.heap.size, 0, none⟩ (.string s)) := hB3.setCell (p := ⟨w.heap.size, 0, none⟩) (Nat.le_refl _) _
  have HB4 := Lib.hid hB4
  have HO4 := Lib.hid ho4
  have hww : w.heap.size ≤ w1.heap.size := Nat.le_of_lt hwl
  have hwl3 := Nat.lt_of_lt_of_le hwl2 hb3.size
  have hfl := efix_le L s
  obtain ⟨k, hk⟩ : ∃ k, efix L s = k := ⟨_, rfl⟩
  have HK := Lib.hid hk
  clear hb3 ho3 hB3 hB4 ho4 hwl2 hcl
  rw [hk] at hfl ⊢
  cases hh : ehas L s with
  | true =>
    have hlt := ehas_lt hh
    rw [hk] at hlt
    have hres := Lib.hid (And.intro (eput_has (L := L) (e := ⟨s, i⟩) hh) (eput_len_has (x := ⟨s, i⟩) hh))
    obtain ⟨g, c2, cur, rfl, hg, hBg, hnc, hcm, hcs, hct⟩ := HO4.out.row (by omega)
    have e1 := hg.cell (j := k * 2) (List.getElem?_eq_getElem (by omega))
    have e2 := hg.cell (j := k * 2 + 1) (List.getElem?_eq_getElem (by omega))
    have g1 := frozen_of_row _ g (k * 2) _ _ hg
    have g2 := frozen_of_row _ g (k * 2 + 1) _ _ hg
    have q0 : (0 : Int) ≤ (k : Int) := by omega
    have q1 : (k : Int) < (n : Int) := by omega
    have hlt2 : k < n := by omega
    have hgw : w.heap.size ≤ g := by omega
    generalize cur[k * 2] = z1 at e1
    generalize cur[k * 2 + 1] = z2 at e2
    clear hg hct hcs hk hh
    go_wp2_with (fail)
    go_ret
    refine ⟨_, rfl, ?_, Below.set2 HB4.out hgw⟩
    rw [hres.out.1, List.length_set, hl]
    have := (HO4.out.set hlt2 ⟨s, i⟩).lower hww
    rwa [← HK.out] at this ⊢
  | false =>
    have hres := Lib.hid (And.intro (eput_not (L := L) (e := ⟨s, i⟩) hh) (eput_len_not (x := ⟨s, i⟩) hh))
    have hlo := HO4.out.lt
    have hins := insert_any w.heap.size v n k w3.heap.size L ⟨s, i⟩ ((w3.setCell ⟨w.heap.size, 0, none⟩ (.string s)).alloc (.cells #[.string s, .int .i64 i] 36 (0, 0))) ((HO4.out.lower hww).alloc _) (by simp; omega)
      (by have := heap_alloc_new (w3.setCell ⟨w.heap.size, 0, none⟩ (.string s)) (.cells #[.string s, .int .i64 i] 36 (0, 0)); simpa [RowE, ecl] using this)
      (fun g hg e => by have := (hlo g hg).2; simp at this; omega) (by omega) (by omega)
    clear hlo hk hh
    go_wp2_with (fail)
    refine hins.mono ?_
    rintro e w5 ⟨v5, rfl, ho5, hb5⟩
    have HO5 := Lib.hid ho5
    have HB5 := Lib.hid ((HB4.out.alloc (by simp; omega) _).trans hb5)
    clear ho5 hb5 hins
    go_wp2_with (fail)
    go_ret
    refine ⟨_, rfl, ?_, HB5.out⟩
    rw [hres.out.2, hres.out.1, hl, show efix L (En.mk s i).s = k from HK.out]
    exact HO5.out
end Go.Proofs.Ytiedapiepklhlaa
