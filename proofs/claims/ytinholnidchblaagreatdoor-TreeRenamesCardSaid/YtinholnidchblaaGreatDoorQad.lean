/-
  Put of the program and of the document, by contract.
-/
import Derived.Test.YtinholnidchblaaGreatDoorQac
import Derived.Test.YtinholnidchblaaGreatDoorQab
set_option linter.unusedVariables false
set_option linter.unusedSimpArgs false
namespace Go.Proofs.YtinholnidchblaaGreatDoor
open Go.RowKit
set_option linter.unusedVariables false
set_option linter.unusedSimpArgs false

theorem insert_any (B : Nat) (v : Value) (n i vb : Nat) (L : List En) (e : En) (w : World) (ho : OwnE w B v n L) (hB : B ≤ w.heap.size) (hv : RowE w vb (ecl e)) (hne : ∀ g, v.ownBlock = some g → vb ≠ g) (hi : i ≤ n) (hbig : n ≤ 1000000) :
    Calls Tryz.prog 147 #[v, .int .i64 i, .slice (some ⟨vb, 0, none⟩) 1 1] w (InsPost B w (n + 1) (L.take i ++ e :: L.drop i)) := by
  rcases Nat.lt_or_ge i n with h | h
  · obtain ⟨g, c, cur, rfl, hg, hBg, hnc, hcm, hs, ht⟩ := ho.row (by omega)
    by_cases hr : n + 1 ≤ c
    · exact insert_shift B g n c i vb cur L e w hg hBg hnc hcm hs ho.len ht hv (hne g rfl) h hr hbig
    · exact insert_grow B g n c i vb cur L e w hg hB hnc hcm hs ho.len ht hv h hr hbig
  · obtain rfl : i = n := by omega
    exact insert_end B v i vb L e w ho hB hv hbig
theorem eflat_set (L : List En) (k : Nat) (x : En) (hk : k < L.length) : ((L.flatMap ecl).set (k * 2) (.string x.s)).set (k * 2 + 1) (.int .i64 x.i) = (L.set k x).flatMap ecl := by
  induction L generalizing k with
  | nil => simp at hk
  | cons y L ih =>
    cases k with
    | zero => rfl
    | succ k =>
      have := ih k (by simpa using hk)
      have e : (k + 1) * 2 = k * 2 + 1 + 1 := by omega
      rw [e]
      show _ = ecl y ++ (L.set k x).flatMap ecl
      rw [← this]
      rfl
/-- An entry is laid in the place of another one. -/
theorem OwnE.set {w : World} {B g n c k : Nat} {L : List En} (h : OwnE w B (.slice (some ⟨g, 0, none⟩) n c) n L) (hk : k < n) (x : En) :
    OwnE ((w.setCell ⟨g, k * 2, none⟩ (.string x.s)).setCell ⟨g, k * 2 + 1, none⟩ (.int .i64 x.i)) B (.slice (some ⟨g, 0, none⟩) n c) n (L.set k x) := by
  have h1 := (World.ownsRow.stored h (k * 2) (.string x.s)).1
  have h2 := (World.ownsRow.stored h1 (k * 2 + 1) (.int .i64 x.i)).1
  rw [eflat_set L k x (by rw [h.len]; exact hk)] at h2
  exact h2
theorem Below.set2 {w0 w : World} {B g p q : Nat} {u v : Value} (h : Below B w0 w) (hB : B ≤ g) : Below B w0 ((w.setCell ⟨g, p, none⟩ u).setCell ⟨g, q, none⟩ v) := (h.setCell (p := ⟨g, p, none⟩) hB _).setCell (p := ⟨g, q, none⟩) hB _
theorem eput_len_has {L : List En} {x : En} (h : ehas L x.s = true) : (eput L x).length = L.length := by rw [eput_has h, List.length_set]
theorem eput_len_not {L : List En} {x : En} (h : ehas L x.s = false) : (eput L x).length = L.length + 1 := by
  have := efix_le L x.s
  rw [eput_not h, List.length_append, List.length_cons, List.length_take, List.length_drop]
  omega
theorem ehas_lt {L : List En} {s : ByteArray} (h : ehas L s = true) : efix L s < L.length := by
  unfold ehas at h
  rw [Bool.and_eq_true, decide_eq_true_eq] at h
  exact h.1
set_option maxHeartbeats 4000000 in
theorem put_any (a : Option Addr) (n c : Nat) (L : List En) (x : En) (w : World) (h : Ens w a n L) (hn : n ≤ 100000) (hs : Fit L) (hx : x.s.size ≤ 1000000) :
    Calls Tryz.prog 130 #[.slice a n c, env x] w (InsPost w.heap.size w (eput L x).length (eput L x)) := by
  obtain ⟨s, i⟩ := x
  have hb0 : Below w.heap.size w (w.alloc (.cells #[.string s, .int .i64 i] 77 (0, 0))) := (Below.refl _ _).alloc (Nat.le_refl _) _
  have hfi := find_any a n c L s (w.alloc (.cells #[.string s, .int .i64 i] 77 (0, 0))) (h.next hb0) (by omega)
  have HB := Lib.hid hb0
  have HH := Lib.hid h
  have HS := Lib.hid hs
  have HX := Lib.hid hx
  have hl := h.len
  clear h hs hb0
  unfold env
  simp only
  go_enter Tryz.func130, Tryz.ntmps130
  go_wp2_with (fail)
  refine hfi.mono ?_
  rintro e w1 ⟨rfl, hb1⟩
  have hB1 := HB.out.trans (hb1.mono HB.out.size)
  have hcp := copies_any a n c L w1 (HH.out.next hB1) (by omega) HS.out
  have c0 := hb1.cell (p := ⟨w.heap.size, 0, none⟩) (by simp)
  have c1 := hb1.cell (p := ⟨w.heap.size, 1, none⟩) (by simp)
  have f0 := hb1.frozen (p := ⟨w.heap.size, 0, none⟩) (by simp)
  rw [show (w.alloc (.cells #[.string s, .int .i64 i] 77 (0, 0))).cell? ⟨w.heap.size, 0, none⟩ = some (.string s) by simp] at c0
  rw [show (w.alloc (.cells #[.string s, .int .i64 i] 77 (0, 0))).cell? ⟨w.heap.size, 1, none⟩ = some (.int .i64 i) by simp] at c1
  rw [show (w.alloc (.cells #[.string s, .int .i64 i] 77 (0, 0))).frozen? ⟨w.heap.size, 0, none⟩ = false by simp] at f0
  have hwl : w.heap.size < w1.heap.size := Nat.lt_of_lt_of_le (by simp) hb1.size
  have HC := Lib.hid (And.intro c0 (And.intro c1 (And.intro f0 hwl)))
  have HB1 := Lib.hid hB1
  clear c0 c1 f0 hwl hB1 hb1 hfi
  go_wp2_with (fail)
  refine hcp.mono ?_
  rintro e w2 ⟨v, rfl, ho2, hb2⟩
  have hcl := clone_any s w2 (Nat.le_trans HX.out (by decide))
  have hwl := HC.out.2.2.2
  have d0 := (hb2.cell (p := ⟨w.heap.size, 0, none⟩) hwl).trans HC.out.1
  have HD := Lib.hid (And.intro ((hb2.cell (p := ⟨w.heap.size, 1, none⟩) hwl).trans HC.out.2.1) (And.intro ((hb2.frozen (p := ⟨w.heap.size, 0, none⟩) hwl).trans HC.out.2.2.1) d0))
  have HB2 := Lib.hid (HB1.out.trans (hb2.mono HB1.out.size))
  have HO2 := Lib.hid ho2
  have hwl2 := Nat.lt_of_lt_of_le hwl hb2.size
  have hw12 := hb2.size
  clear hb2 hcp ho2
  go_wp2_with (fail)
  refine hcl.mono ?_
  rintro e w3 ⟨rfl, hb3⟩
  have c0 := (hb3.cell (p := ⟨w.heap.size, 0, none⟩) hwl2).trans HD.out.2.2
  have c1 := (hb3.cell (p := ⟨w.heap.size, 1, none⟩) hwl2).trans HD.out.1
  have f0 := (hb3.frozen (p := ⟨w.heap.size, 0, none⟩) hwl2).trans HD.out.2.1
  have ho3 := HO2.out.next hb3
  have hB3 := HB2.out.trans (hb3.mono HB2.out.size)
  have ho4 : OwnE (w3.setCell ⟨w.heap.size, 0, none⟩ (.string s)) w1.heap.size v n L := ho3.setLow (p := ⟨w.heap.size, 0, none⟩) hwl _
  have hB4 : Below w.heap.size w (w3.setCell ⟨w.heap.size, 0, none⟩ (.string s)) := hB3.setCell (p := ⟨w.heap.size, 0, none⟩) (Nat.le_refl _) _
  have HB4 := Lib.hid hB4
  have HO4 := Lib.hid ho4
  have hww : w.heap.size ≤ w1.heap.size := Nat.le_of_lt hwl
  have hwl3 := Nat.lt_of_lt_of_le hwl2 hb3.size
  have hfl := efix_le L s
  obtain ⟨k, hk⟩ : ∃ k, efix L s = k := ⟨_, rfl⟩
  have HK := Lib.hid hk
  clear hb3 ho3 hB3 hB4 ho4 hwl2 hcl
  rw [hk] at hfl ⊢
  cases hh : ehas L s with
  | true =>
    have hlt := ehas_lt hh
    rw [hk] at hlt
    have hres := Lib.hid (And.intro (eput_has (L := L) (e := ⟨s, i⟩) hh) (eput_len_has (x := ⟨s, i⟩) hh))
    obtain ⟨g, c2, cur, rfl, hg, hBg, hnc, hcm, hcs, hct⟩ := HO4.out.row (by omega)
    have e1 := hg.cell (j := k * 2) (List.getElem?_eq_getElem (by omega))
    have e2 := hg.cell (j := k * 2 + 1) (List.getElem?_eq_getElem (by omega))
    have g1 := frozen_of_row _ g (k * 2) _ _ hg
    have g2 := frozen_of_row _ g (k * 2 + 1) _ _ hg
    have q0 : (0 : Int) ≤ (k : Int) := by omega
    have q1 : (k : Int) < (n : Int) := by omega
    have hlt2 : k < n := by omega
    have hgw : w.heap.size ≤ g := by omega
    generalize cur[k * 2] = z1 at e1
    generalize cur[k * 2 + 1] = z2 at e2
    clear hg hct hcs hk hh
    go_wp2_with (fail)
    go_ret
    refine ⟨_, rfl, ?_, Below.set2 HB4.out hgw⟩
    rw [hres.out.1, List.length_set, hl]
    have := (HO4.out.set hlt2 ⟨s, i⟩).lower hww
    rwa [← HK.out] at this ⊢
  | false =>
    have hres := Lib.hid (And.intro (eput_not (L := L) (e := ⟨s, i⟩) hh) (eput_len_not (x := ⟨s, i⟩) hh))
    have hlo := HO4.out.lt
    have hins := insert_any w.heap.size v n k w3.heap.size L ⟨s, i⟩ ((w3.setCell ⟨w.heap.size, 0, none⟩ (.string s)).alloc (.cells #[.string s, .int .i64 i] 77 (0, 0))) ((HO4.out.lower hww).alloc _) (by simp; omega)
      (by have := heap_alloc_new (w3.setCell ⟨w.heap.size, 0, none⟩ (.string s)) (.cells #[.string s, .int .i64 i] 77 (0, 0)); simpa [RowE, ecl] using this)
      (fun g hg e => by have := (hlo g hg).2; simp at this; omega) (by omega) (by omega)
    clear hlo hk hh
    go_wp2_with (fail)
    refine hins.mono ?_
    rintro e w5 ⟨v5, rfl, ho5, hb5⟩
    have HO5 := Lib.hid ho5
    have HB5 := Lib.hid ((HB4.out.alloc (by simp; omega) _).trans hb5)
    clear ho5 hb5 hins
    go_wp2_with (fail)
    go_ret
    refine ⟨_, rfl, ?_, HB5.out⟩
    rw [hres.out.2, hres.out.1, hl, show efix L (En.mk s i).s = k from HK.out]
    exact HO5.out
end Go.Proofs.YtinholnidchblaaGreatDoor

/-
  Plain facts of lists by rising names: what is put is found, what is cut isn't, and the order of puts is none.
-/
namespace Go.Proofs.YtinholnidchblaaGreatDoor
set_option linter.unusedVariables false
set_option linter.unusedSimpArgs false

/-- Names rise, told of each two. -/
def Rp (L : List En) : Prop := L.Pairwise fun x y => blt x.s y.s = true
theorem ris_rp : ∀ L : List En, ris L = true ↔ Rp L
  | [] => ⟨fun _ => List.Pairwise.nil, fun _ => rfl⟩
  | [x] => ⟨fun _ => by unfold Rp; simp, fun _ => rfl⟩
  | x :: y :: r => by
    rw [ris, Bool.and_eq_true, ris_rp (y :: r)]
    unfold Rp
    rw [List.pairwise_cons (a := x)]
    constructor
    · rintro ⟨h, k⟩
      refine ⟨fun z hz => ?_, k⟩
      rcases List.mem_cons.1 hz with rfl | hz
      · exact h
      · exact blt_trans h ((List.pairwise_cons.1 k).1 z hz)
    · rintro ⟨h, k⟩
      exact ⟨h y (by simp), k⟩
theorem Rp.at {L : List En} (h : Rp L) {i j : Nat} (hij : i < j) (hj : j < L.length) : blt (eat L i).s (eat L j).s = true := by
  have := List.pairwise_iff_getElem.1 h i j (by omega) hj hij
  simpa [eat, List.getD, hj, show i < L.length by omega] using this
theorem mem_eat {L : List En} {x : En} (h : x ∈ L) : ∃ i, i < L.length ∧ eat L i = x := by
  obtain ⟨i, hi, rfl⟩ := List.getElem_of_mem h
  exact ⟨i, hi, by simp [eat, List.getD, hi]⟩
theorem mem_take_low {L : List En} {s : ByteArray} {x : En} (h : x ∈ L.take (efix L s)) : blt x.s s = true := by
  obtain ⟨i, hi, rfl⟩ := mem_eat h
  rw [List.length_take] at hi
  rw [eat_take (by omega)]
  exact efix_low L s i (by omega)
theorem mem_drop_high {L : List En} (hL : Rp L) {s : ByteArray} {x : En} (h : x ∈ L.drop (efix L s + if ehas L s then 1 else 0)) : blt s x.s = true := by
  obtain ⟨i, hi, rfl⟩ := mem_eat h
  rw [List.length_drop] at hi
  rw [eat_drop]
  have hlt : efix L s < L.length := by split at hi <;> omega
  cases hh : ehas L s with
  | true =>
    rw [hh] at hi
    rw [if_pos rfl] at hi ⊢
    have he := ehas_at hlt
    rw [hh] at he
    have e := beqS_iff.1 he.symm
    rw [← e]
    have := hL.at (i := efix L s) (j := efix L s + 1 + i) (by omega) (by omega)
    rw [e] at this ⊢
    exact this
  | false =>
    rw [hh] at hi
    rw [if_neg (by decide)] at hi ⊢
    have he := ehas_at hlt
    rw [hh] at he
    have hn := efix_not hlt
    have h0 : blt s (eat L (efix L s)).s = true := by
      cases hb : blt s (eat L (efix L s)).s with
      | true => rfl
      | false =>
        have e := blt_total hn hb
        have : beqS (eat L (efix L s)).s s = true := beqS_iff.2 e
        rw [this] at he
        cases he
    rw [Nat.add_zero]
    by_cases h0i : i = 0
    · subst h0i
      rw [Nat.add_zero]
      exact h0
    · exact blt_trans h0 (hL.at (i := efix L s) (j := efix L s + i) (by omega) (by simp at hi; omega))
theorem rp_put {L : List En} (hL : Rp L) (e : En) : Rp (eput L e) := by
  unfold Rp eput
  rw [List.pairwise_append, List.pairwise_cons]
  refine ⟨List.Pairwise.sublist (List.take_sublist _ _) hL, ⟨fun y hy => mem_drop_high hL hy, List.Pairwise.sublist (List.drop_sublist _ _) hL⟩, fun x hx y hy => ?_⟩
  rcases List.mem_cons.1 hy with rfl | hy
  · exact mem_take_low hx
  · exact blt_trans (mem_take_low hx) (mem_drop_high hL hy)
theorem eat_app_left {A B : List En} {i : Nat} (h : i < A.length) : eat (A ++ B) i = eat A i := by
  simp [eat, List.getD, List.getElem?_append_left h]
/-- What is put is found. -/
theorem put_found (L : List En) (e : En) : efix (eput L e) e.s = efix L e.s ∧ efix L e.s < (eput L e).length ∧ eat (eput L e) (efix L e.s) = e ∧ ehas (eput L e) e.s = true := by
  have hle := efix_le L e.s
  have hlt : (L.take (efix L e.s)).length = efix L e.s := by rw [List.length_take]; omega
  have h1 : efix L e.s < (eput L e).length := by unfold eput; rw [List.length_append, hlt, List.length_cons]; omega
  have h2 : eat (eput L e) (efix L e.s) = e := by
    unfold eput eat
    rw [List.getD_eq_getElem?_getD, List.getElem?_append_right (by omega), hlt, Nat.sub_self]
    rfl
  have hlow : LowTo (eput L e) e.s (efix L e.s) := fun j hj => by
    have : eat (eput L e) j = eat L j := by
      unfold eput
      rw [eat_app_left (by omega), eat_take hj]
    rw [this]
    exact efix_low L e.s j hj
  obtain ⟨h3, h4⟩ := ehas_low hlow h1 (by rw [h2]; exact blt_irrefl _)
  exact ⟨h3, h1, h2, by rw [h4, h2]; exact beqS_refl _⟩
theorem filter_ne {M : List En} {s : ByteArray} (h : ∀ x ∈ M, x.s ≠ s) : (M.filter fun e => !(beqS e.s s)) = M := by
  rw [List.filter_eq_self]
  intro x hx
  cases hb : beqS x.s s with
  | false => rfl
  | true => exact absurd (beqS_iff.1 hb) (h x hx)
/-- What is cut where names rise. -/
theorem cut_one {M : List En} (hM : Rp M) {k : Nat} (hk : k < M.length) {s : ByteArray} (e : (eat M k).s = s) : (ecut M s).length = M.length - 1 := by
  have hd : M.drop k = eat M k :: M.drop (k + 1) := by
    rw [List.drop_eq_getElem_cons hk]
    simp [eat, List.getD, hk]
  have h1 : M = M.take k ++ eat M k :: M.drop (k + 1) := by rw [← hd, List.take_append_drop]
  have h2 : ecut M s = M.take k ++ M.drop (k + 1) := by
    conv => lhs; rw [h1]
    unfold ecut
    rw [List.filter_append, List.filter_cons, filter_ne (fun x hx => ?_), filter_ne (fun x hx => ?_)]
    · rw [if_neg]
      rw [e, beqS_refl]; decide
    · obtain ⟨i, hi, rfl⟩ := mem_eat hx
      rw [List.length_drop] at hi
      rw [eat_drop, ← e]
      exact (blt_ne (hM.at (i := k) (j := k + 1 + i) (by omega) (by omega))).symm
    · obtain ⟨i, hi, rfl⟩ := mem_eat hx
      rw [List.length_take] at hi
      rw [eat_take (by omega), ← e]
      exact blt_ne (hM.at (i := i) (j := k) (by omega) hk)
  rw [h2, List.length_append, List.length_take, List.length_drop]
  omega
theorem rp_cut {M : List En} (hM : Rp M) (s : ByteArray) : Rp (ecut M s) := List.Pairwise.filter _ hM
theorem cut_gone (M : List En) (s : ByteArray) : ehas (ecut M s) s = false := by
  cases h : ehas (ecut M s) s with
  | false => rfl
  | true =>
    have hl := ehas_lt h
    have he := ehas_at hl
    rw [h] at he
    have hm : (!beqS (eat (ecut M s) (efix (ecut M s) s)).s s) = true := (List.mem_filter.1 (eat_mem hl)).2
    rw [← he] at hm
    cases hm
theorem cut_put (L : List En) (e : En) : ecut (eput L e) e.s = ecut L e.s := by
  have h0 : ecut L e.s = ecut (L.take (efix L e.s)) e.s ++ ecut (L.drop (efix L e.s)) e.s := by
    unfold ecut
    rw [← List.filter_append, List.take_append_drop]
  have h1 : ecut (eput L e) e.s = ecut (L.take (efix L e.s)) e.s ++ ecut (L.drop (efix L e.s + if ehas L e.s then 1 else 0)) e.s := by
    unfold ecut eput
    rw [List.filter_append, List.filter_cons, if_neg (by rw [beqS_refl]; decide)]
  rw [h0, h1]
  cases hh : ehas L e.s with
  | false => rw [if_neg (by decide), Nat.add_zero]
  | true =>
    have hl := ehas_lt hh
    have he := ehas_at hl
    rw [hh] at he
    rw [if_pos rfl, List.drop_eq_getElem_cons hl]
    have hx : L[efix L e.s] = eat L (efix L e.s) := by simp [eat, List.getD, hl]
    congr 1
    unfold ecut
    rw [List.filter_cons, if_neg]
    rw [hx, ← he]
    decide
theorem mem_put {L : List En} {e : En} (h : ehas L e.s = false) (x : En) : x ∈ eput L e ↔ x ∈ L ∨ x = e := by
  rw [eput_not h, List.mem_append, List.mem_cons]
  have : x ∈ L ↔ x ∈ L.take (efix L e.s) ∨ x ∈ L.drop (efix L e.s) := by
    rw [← List.mem_append, List.take_append_drop]
  rw [this]
  constructor
  · rintro (h | h | h)
    · exact .inl (.inl h)
    · exact .inr h
    · exact .inl (.inr h)
  · rintro ((h | h) | h)
    · exact .inl h
    · exact .inr (.inr h)
    · exact .inr (.inl h)
theorem has_mem {L : List En} (hL : Rp L) {x : En} (h : x ∈ L) : ehas L x.s = true := by
  obtain ⟨i, hi, rfl⟩ := mem_eat h
  have hlow : LowTo L (eat L i).s i := fun j hj => hL.at hj hi
  obtain ⟨_, h2⟩ := ehas_low hlow hi (blt_irrefl _)
  rw [h2]
  exact beqS_refl _
theorem mem_has {L : List En} {s : ByteArray} (h : ehas L s = true) : ∃ x ∈ L, x.s = s := by
  have hl := ehas_lt h
  have he := ehas_at hl
  rw [h] at he
  exact ⟨_, eat_mem hl, beqS_iff.1 he.symm⟩
theorem rp_ext : ∀ {A B : List En}, Rp A → Rp B → (∀ x, x ∈ A ↔ x ∈ B) → A = B
  | [], [], _, _, _ => rfl
  | [], y :: B, _, _, h => by have := (h y).2 (by simp); simp at this
  | x :: A, [], _, _, h => by have := (h x).1 (by simp); simp at this
  | x :: A, y :: B, hA, hB, h => by
    have hA' := List.pairwise_cons.1 hA
    have hB' := List.pairwise_cons.1 hB
    have hxy : x = y := by
      rcases List.mem_cons.1 ((h x).1 (by simp)) with e | h1
      · exact e
      · rcases List.mem_cons.1 ((h y).2 (by simp)) with e | h2
        · exact e.symm
        · have h3 := hB'.1 x h1
          have h4 := hA'.1 y h2
          have h5 := blt_trans h3 h4
          rw [blt_irrefl] at h5
          cases h5
    subst hxy
    rw [rp_ext hA'.2 hB'.2 (fun z => ?_)]
    constructor
    · intro hz
      rcases List.mem_cons.1 ((h z).1 (by simp [hz])) with e | h1
      · subst e
        have := hA'.1 z hz
        rw [blt_irrefl] at this
        cases this
      · exact h1
    · intro hz
      rcases List.mem_cons.1 ((h z).2 (by simp [hz])) with e | h1
      · subst e
        have := hB'.1 z hz
        rw [blt_irrefl] at this
        cases this
      · exact h1
/-- No two have one name. -/
def Dist (L : List En) : Prop := L.Pairwise fun x y => x.s ≠ y.s
/-- Where the first loop of the law on orders stands. -/
structure Or1 (ls : List En) (k : Nat) (a : List En) : Prop where
  rp : Rp a
  mem : ∀ x, x ∈ a ↔ x ∈ ls.take k
  len : a.length = k
  dist : Dist (ls.take k)
theorem Or1.start (ls : List En) : Or1 ls 0 [] := ⟨List.Pairwise.nil, fun x => by simp, rfl, by simp [Dist]⟩
theorem Or1.step {ls a : List En} {k : Nat} (h : Or1 ls k a) (hk : k < ls.length) (hn : ehas a (eat ls k).s = false) : Or1 ls (k + 1) (eput a (eat ls k)) := by
  have ht := take_snoc hk
  refine ⟨rp_put h.rp _, fun x => ?_, by rw [eput_len_not hn, h.len], ?_⟩
  · rw [mem_put hn, ← ht, List.mem_append, List.mem_singleton, h.mem]
  · unfold Dist
    rw [← ht, List.pairwise_append]
    refine ⟨h.dist, by simp, fun x hx y hy e => ?_⟩
    rw [List.mem_singleton.1 hy] at e
    have := has_mem h.rp ((h.mem x).2 hx)
    rw [e, hn] at this
    cases this
/-- Where the second one stands. -/
structure Or2 (ls : List En) (i : Nat) (b : List En) : Prop where
  rp : Rp b
  mem : ∀ x, x ∈ b ↔ x ∈ ls.drop i
  len : b.length = ls.length - i
theorem Or2.start (ls : List En) : Or2 ls ls.length [] := ⟨List.Pairwise.nil, fun x => by simp, by simp⟩
theorem drop_at_e {ls : List En} {i : Nat} (hi : i < ls.length) : ls.drop i = eat ls i :: ls.drop (i + 1) := by
  rw [List.drop_eq_getElem_cons hi]
  simp [eat, List.getD, hi]
theorem Or2.step {ls b : List En} {i : Nat} (h : Or2 ls (i + 1) b) (hi : i < ls.length) (hd : Dist ls) : Or2 ls i (eput b (eat ls i)) := by
  have hn : ehas b (eat ls i).s = false := by
    cases hh : ehas b (eat ls i).s with
    | false => rfl
    | true =>
      obtain ⟨x, hx, e⟩ := mem_has hh
      obtain ⟨j, hj, rfl⟩ := mem_eat ((h.mem x).1 hx)
      rw [List.length_drop] at hj
      rw [eat_drop] at e
      have := List.pairwise_iff_getElem.1 hd i (i + 1 + j) hi (by omega) (by omega)
      simp only [eat, List.getD, List.getElem?_eq_getElem hi, List.getElem?_eq_getElem (show i + 1 + j < ls.length by omega), Option.getD_some] at e
      exact absurd e.symm this
  refine ⟨rp_put h.rp _, fun x => ?_, by rw [eput_len_not hn, h.len]; omega⟩
  rw [mem_put hn, drop_at_e hi, List.mem_cons, h.mem]
  constructor
  · rintro (h | h)
    · exact .inr h
    · exact .inl h
  · rintro (h | h)
    · exact .inr h
    · exact .inl h
theorem Or1.all {ls a b : List En} (h : Or1 ls ls.length a) (k : Or2 ls 0 b) : a = b := by
  refine rp_ext h.rp k.rp fun x => ?_
  rw [h.mem, k.mem, List.take_of_length_le (Nat.le_refl _)]
  rfl
theorem Or1.dist_all {ls a : List En} (h : Or1 ls ls.length a) : Dist ls := by
  have := h.dist
  rwa [List.take_of_length_le (Nat.le_refl _)] at this
end Go.Proofs.YtinholnidchblaaGreatDoor

/-
  Trees, plainly: an entry found, put and cut; what of that leaves a tree right; walks, and what other numbers make of them.
-/
namespace Go.Proofs.YtinholnidchblaaGreatDoor
set_option linter.unusedVariables false
set_option linter.unusedSimpArgs false

/-- The place that a name's entry tells. -/
def fnd (E : List En) (s : ByteArray) : Option Nat := if ehas E s then some (inoN (eat E (efix E s))) else none
theorem Rp.nodup {E : List En} (h : Rp E) : E.Nodup := List.Pairwise.imp (fun {a b} hab e => by rw [e, blt_irrefl] at hab; cases hab) h
theorem rp_uniq {E : List En} (h : Rp E) {x y : En} (hx : x ∈ E) (hy : y ∈ E) (e : x.s = y.s) : x = y := by
  obtain ⟨i, hi, rfl⟩ := mem_eat hx
  obtain ⟨j, hj, rfl⟩ := mem_eat hy
  rcases Nat.lt_trichotomy i j with k | k | k
  · exact absurd e (blt_ne (h.at k hj))
  · rw [k]
  · exact absurd e.symm (blt_ne (h.at k hi))
theorem fnd_iff {E : List En} (h : Rp E) {s : ByteArray} {k : Nat} : fnd E s = some k ↔ ∃ x ∈ E, x.s = s ∧ inoN x = k := by
  unfold fnd
  constructor
  · intro hk
    split at hk
    · rename_i hh
      have hl := ehas_lt hh
      have he := ehas_at hl
      rw [hh] at he
      exact ⟨_, eat_mem hl, beqS_iff.1 he.symm, Option.some.inj hk⟩
    · cases hk
  · rintro ⟨x, hx, rfl, rfl⟩
    have hh := has_mem h hx
    rw [if_pos hh]
    have hl := ehas_lt hh
    have he := ehas_at hl
    rw [hh] at he
    rw [rp_uniq h (eat_mem hl) hx (beqS_iff.1 he.symm)]
theorem fnd_none {E : List En} (h : Rp E) {s : ByteArray} : fnd E s = none ↔ ∀ x ∈ E, x.s ≠ s := by
  constructor
  · intro hn x hx e
    have := (fnd_iff h).2 ⟨x, hx, e, rfl⟩
    rw [hn] at this; cases this
  · intro hn
    cases hf : fnd E s with
    | none => rfl
    | some k =>
      obtain ⟨x, hx, e, _⟩ := (fnd_iff h).1 hf
      exact absurd e (hn x hx)
theorem fnd_mem {E : List En} {s : ByteArray} {k : Nat} (h : fnd E s = some k) : k ∈ E.map inoN := by
  unfold fnd at h
  split at h
  · rename_i hh
    rw [← Option.some.inj h]
    exact List.mem_map.2 ⟨_, eat_mem (ehas_lt hh), rfl⟩
  · cases h
theorem mem_put2 {E : List En} (hE : Rp E) (e x : En) : x ∈ eput E e ↔ x = e ∨ x ∈ E ∧ x.s ≠ e.s := by
  have hsplit : x ∈ E ↔ x ∈ E.take (efix E e.s) ∨ x ∈ E.drop (efix E e.s) := by rw [← List.mem_append, List.take_append_drop]
  unfold eput
  rw [List.mem_append, List.mem_cons]
  constructor
  · rintro (h | h | h)
    · exact .inr ⟨List.mem_of_mem_take h, blt_ne (mem_take_low h)⟩
    · exact .inl h
    · exact .inr ⟨List.mem_of_mem_drop h, (blt_ne (mem_drop_high hE h)).symm⟩
  · rintro (h | ⟨h, hne⟩)
    · exact .inr (.inl h)
    · rcases hsplit.1 h with h | h
      · exact .inl h
      · refine .inr (.inr ?_)
        cases hh : ehas E e.s with
        | false => rw [if_neg (by decide), Nat.add_zero]; exact h
        | true =>
          have hl := ehas_lt hh
          have he := ehas_at hl
          rw [hh] at he
          rw [drop_at_e hl, List.mem_cons] at h
          rw [if_pos rfl]
          rcases h with rfl | h
          · exact absurd (beqS_iff.1 he.symm) hne
          · exact h
theorem mem_cut {E : List En} {s : ByteArray} {x : En} : x ∈ ecut E s ↔ x ∈ E ∧ x.s ≠ s := by
  unfold ecut
  rw [List.mem_filter]
  constructor
  · rintro ⟨h, k⟩
    refine ⟨h, fun e => ?_⟩
    rw [beqS_iff.2 e] at k; cases k
  · rintro ⟨h, k⟩
    refine ⟨h, ?_⟩
    cases hb : beqS x.s s with
    | false => rfl
    | true => exact absurd (beqS_iff.1 hb) k
theorem fnd_put {E : List En} (h : Rp E) (e : En) (s : ByteArray) : fnd (eput E e) s = if s = e.s then some (inoN e) else fnd E s := by
  split
  · rename_i hs
    exact (fnd_iff (rp_put h e)).2 ⟨e, (mem_put2 h e e).2 (.inl rfl), hs.symm, rfl⟩
  · rename_i hs
    cases hf : fnd E s with
    | none =>
      refine (fnd_none (rp_put h e)).2 fun x hx => ?_
      rcases (mem_put2 h e x).1 hx with rfl | ⟨hx, _⟩
      · exact fun e => hs e.symm
      · exact (fnd_none h).1 hf x hx
    | some k =>
      obtain ⟨x, hx, rfl, rfl⟩ := (fnd_iff h).1 hf
      exact (fnd_iff (rp_put h e)).2 ⟨x, (mem_put2 h e x).2 (.inr ⟨hx, hs⟩), rfl, rfl⟩
theorem fnd_cut {E : List En} (h : Rp E) (n s : ByteArray) : fnd (ecut E n) s = if s = n then none else fnd E s := by
  split
  · rename_i hs
    refine (fnd_none (rp_cut h n)).2 fun x hx => ?_
    rw [hs]
    exact (mem_cut.1 hx).2
  · rename_i hs
    cases hf : fnd E s with
    | none => exact (fnd_none (rp_cut h n)).2 fun x hx => (fnd_none h).1 hf x (mem_cut.1 hx).1
    | some k =>
      obtain ⟨x, hx, rfl, rfl⟩ := (fnd_iff h).1 hf
      exact (fnd_iff (rp_cut h n)).2 ⟨x, mem_cut.2 ⟨hx, hs⟩, rfl, rfl⟩
theorem eat_setI {f : Nat → Nat} {E : List En} {i : Nat} (h : i < E.length) : eat (E.map (setI f)) i = setI f (eat E i) := by simp [eat, List.getD, h]
theorem efix_setI {f : Nat → Nat} (E : List En) (s : ByteArray) : efix (E.map (setI f)) s = efix E s := by
  unfold efix
  rw [List.findIdx_map]
  rfl
theorem ehas_setI {f : Nat → Nat} (E : List En) (s : ByteArray) : ehas (E.map (setI f)) s = ehas E s := by
  unfold ehas
  rw [efix_setI, List.length_map]
  by_cases h : efix E s < E.length
  · rw [eat_setI h]; rfl
  · rw [decide_eq_false h]; rfl
theorem fnd_setI {f : Nat → Nat} (E : List En) (s : ByteArray) : fnd (E.map (setI f)) s = (fnd E s).map f := by
  unfold fnd
  rw [ehas_setI]
  split
  · rename_i h
    rw [efix_setI, eat_setI (ehas_lt h), inoN_setI]; rfl
  · rfl
theorem eput_perm {E : List En} (h : Rp E) (e : En) : (eput E e).Perm (e :: ecut E e.s) := by
  rw [List.perm_ext_iff_of_nodup (rp_put h e).nodup]
  · intro x
    rw [mem_put2 h, List.mem_cons, mem_cut]
  · rw [List.nodup_cons]
    exact ⟨fun hm => (mem_cut.1 hm).2 rfl, (rp_cut h _).nodup⟩
theorem ecut_perm {E : List En} (h : Rp E) {x : En} (hx : x ∈ E) : E.Perm (x :: ecut E x.s) := by
  rw [List.perm_ext_iff_of_nodup h.nodup]
  · intro y
    rw [List.mem_cons, mem_cut]
    constructor
    · intro hy
      by_cases e : y.s = x.s
      · exact .inl (rp_uniq h hy hx e)
      · exact .inr ⟨hy, e⟩
    · rintro (rfl | h)
      · exact hx
      · exact h.1
  · rw [List.nodup_cons]
    exact ⟨fun hm => (mem_cut.1 hm).2 rfl, (rp_cut h _).nodup⟩
theorem ecut_none {E : List En} {s : ByteArray} (h : ∀ x ∈ E, x.s ≠ s) : ecut E s = E := filter_ne h
/-- The entries of one who tells i, put. -/
theorem count_put {E : List En} (h : Rp E) (e : En) (i : Nat) : ((eput E e).map inoN).count i = ((ecut E e.s).map inoN).count i + if inoN e = i then 1 else 0 := by
  rw [((eput_perm h e).map inoN).count_eq, List.map_cons, List.count_cons]
  by_cases e : inoN e = i
  · simp [e]
  · simp [e]
theorem count_cut {E : List En} (h : Rp E) {s : ByteArray} {k : Nat} (hk : fnd E s = some k) (i : Nat) : (E.map inoN).count i = ((ecut E s).map inoN).count i + if k = i then 1 else 0 := by
  obtain ⟨x, hx, rfl, rfl⟩ := (fnd_iff h).1 hk
  rw [((ecut_perm h hx).map inoN).count_eq, List.map_cons, List.count_cons]
  by_cases e : inoN x = i
  · simp [e]
  · simp [e]
theorem count_cut_le {E : List En} (s : ByteArray) (i : Nat) : ((ecut E s).map inoN).count i ≤ (E.map inoN).count i := by
  exact List.Sublist.count_le i (List.filter_sublist.map inoN)
theorem len_put {E : List En} (h : Rp E) (e : En) : (eput E e).length = (ecut E e.s).length + 1 := by rw [(eput_perm h e).length_eq, List.length_cons]
theorem len_cut {E : List En} (h : Rp E) {s : ByteArray} {k : Nat} (hk : fnd E s = some k) : E.length = (ecut E s).length + 1 := by
  obtain ⟨x, hx, rfl, rfl⟩ := (fnd_iff h).1 hk
  rw [(ecut_perm h hx).length_eq, List.length_cons]
theorem len_cut_le (E : List En) (s : ByteArray) : (ecut E s).length ≤ E.length := List.length_filter_le _ _

/-- A tree with other entries at a place. -/
def setE (L : List Nd) (a : Nat) (E : List En) : List Nd := L.set a { nat L a with e := E }
theorem setE_len (L : List Nd) (a : Nat) (E : List En) : (setE L a E).length = L.length := by simp [setE]
theorem nat_setE {L : List Nd} {a : Nat} (h : a < L.length) (E : List En) (j : Nat) : nat (setE L a E) j = if a = j then { nat L a with e := E } else nat L j := nat_set L a j _ h
theorem isD_setE {L : List Nd} {a : Nat} (h : a < L.length) (E : List En) (j : Nat) : isD (nat (setE L a E) j) = isD (nat L j) := by
  rw [nat_setE h]
  split
  · rename_i e; rw [← e]; rfl
  · rfl
theorem chs_setE {L : List Nd} {a : Nat} (h : a < L.length) (E : List En) (j : Nat) : chs (setE L a E) j = if a = j then E.map inoN else chs L j := by
  simp only [chs]
  rw [nat_setE h]
  split
  · rfl
  · rfl
theorem sum_one {g g' : Nat → Nat} {a : Nat} (hg : ∀ j, j ≠ a → g j = g' j) : ∀ {n : Nat}, a < n → ((List.range n).map g).sum + g' a = ((List.range n).map g').sum + g a
  | 0, h => by omega
  | n + 1, h => by
    rw [List.range_succ, List.map_append, List.map_append, List.sum_append, List.sum_append]
    simp only [List.map_cons, List.map_nil, List.sum_cons, List.sum_nil]
    by_cases e : a = n
    · subst e
      have : (List.range a).map g = (List.range a).map g' := List.map_congr_left fun j hj => hg j (by have := List.mem_range.1 hj; omega)
      rw [this]; omega
    · have := sum_one hg (n := n) (by omega)
      have := hg n (fun e' => e e'.symm)
      omega
theorem up_setE {L : List Nd} {a : Nat} (h : a < L.length) (E : List En) (i : Nat) : up (setE L a E) i + ((nat L a).e.map inoN).count i = up L i + (E.map inoN).count i := by
  have := sum_one (g := fun j => (chs (setE L a E) j).count i) (g' := fun j => (chs L j).count i) (a := a) (fun j hj => by
    rw [chs_setE h, if_neg (fun e => hj e.symm)]) h
  rw [chs_setE h, if_pos rfl] at this
  simp only [up, setE_len]
  exact this
/-- Is a list of entries as a directory's should be? -/
def entOk (n : Nat) (E : List En) : Prop := E.length ≤ 64 ∧ (∀ y ∈ E, nmB y.s.data.toList = true ∧ 1 ≤ y.i ∧ y.i < n) ∧ ris E = true
theorem dirOk.ent {n : Nat} {x : Nd} (h : dirOk n x) : entOk n x.e := ⟨h.2.2.1, h.2.2.2.1, h.2.2.2.2⟩
theorem entOk.rp {n : Nat} {E : List En} (h : entOk n E) : Rp E := (ris_rp E).1 h.2.2
theorem Snd.dir {L : List Nd} (h : Snd L) {a : Nat} (ha : a < L.length) (hd : isD (nat L a) = true) : dirOk L.length (nat L a) := by
  rcases h.node a ha with k | k
  · rw [isD_file k] at hd; cases hd
  · exact k
theorem Snd.file {L : List Nd} (h : Snd L) {a : Nat} (ha : a < L.length) (hd : isD (nat L a) = false) : fileOk (nat L a) := by
  rcases h.node a ha with k | k
  · exact k
  · rw [isD_dir k] at hd; cases hd
theorem Snd.rp {L : List Nd} (h : Snd L) (a : Nat) : Rp (nat L a).e := by
  by_cases ha : a < L.length
  · rcases h.node a ha with k | k
    · rw [k.2.1]; exact List.Pairwise.nil
    · exact k.ent.rp
  · rw [nat_out (by omega)]; exact List.Pairwise.nil
theorem entOk.put {n : Nat} {E : List En} (h : entOk n E) {e : En} (hn : nmB e.s.data.toList = true) (h1 : 1 ≤ e.i) (h2 : e.i < n) (hl : (ecut E e.s).length < 64) : entOk n (eput E e) := by
  refine ⟨by rw [len_put h.rp]; omega, fun y hy => ?_, (ris_rp _).2 (rp_put h.rp e)⟩
  rcases (mem_put2 h.rp e y).1 hy with rfl | hy
  · exact ⟨hn, h1, h2⟩
  · exact h.2.1 y hy.1
theorem entOk.cut {n : Nat} {E : List En} (h : entOk n E) (s : ByteArray) : entOk n (ecut E s) :=
  ⟨Nat.le_trans (len_cut_le E s) h.1, fun y hy => h.2.1 y (mem_cut.1 hy).1, (ris_rp _).2 (rp_cut h.rp s)⟩
/-- With other entries at a directory, told of how many tell each place. -/
theorem Snd.setE {L : List Nd} (h : Snd L) {a : Nat} (ha : a < L.length) (hd : isD (nat L a) = true) {E : List En} (hE : entOk L.length E)
    (hf : ∀ i, i < L.length → isD (nat L i) = false → up (Go.Proofs.YtinholnidchblaaGreatDoor.setE L a E) i ≤ 200) (ho : ∀ i, 0 < i → i < L.length → isD (nat L i) = true → up (Go.Proofs.YtinholnidchblaaGreatDoor.setE L a E) i ≤ 1) : Snd (Go.Proofs.YtinholnidchblaaGreatDoor.setE L a E) := by
  refine ⟨by rw [setE_len]; exact h.pos, by rw [setE_len]; exact h.few, by rw [isD_setE ha]; exact h.root, fun i hi => ?_, fun i hi hdi => ?_, fun i h0 hi hdi => ?_⟩
  · rw [setE_len] at hi ⊢
    rw [nat_setE ha]
    split
    · have := h.dir ha hd
      exact .inr ⟨this.1, this.2.1, hE.1, hE.2.1, hE.2.2⟩
    · exact h.node i hi
  · rw [setE_len] at hi
    rw [isD_setE ha] at hdi
    exact hf i hi hdi
  · rw [setE_len] at hi
    rw [isD_setE ha] at hdi
    exact ho i h0 hi hdi
/-- Without an entry. -/
theorem Snd.cut {L : List Nd} (h : Snd L) {a : Nat} (ha : a < L.length) (hd : isD (nat L a) = true) (s : ByteArray) : Snd (Go.Proofs.YtinholnidchblaaGreatDoor.setE L a (ecut (nat L a).e s)) ∧ ∀ i, up (Go.Proofs.YtinholnidchblaaGreatDoor.setE L a (ecut (nat L a).e s)) i ≤ up L i := by
  have hu : ∀ i, up (Go.Proofs.YtinholnidchblaaGreatDoor.setE L a (ecut (nat L a).e s)) i ≤ up L i := fun i => by
    have h1 := up_setE ha (ecut (nat L a).e s) i
    have h2 := count_cut_le (E := (nat L a).e) s i
    omega
  exact ⟨h.setE ha hd ((h.dir ha hd).ent.cut s) (fun i hi hdi => Nat.le_trans (hu i) (h.many i hi hdi)) (fun i h0 hi hdi => Nat.le_trans (hu i) (h.one i h0 hi hdi)), hu⟩
theorem up_cut {L : List Nd} (h : Snd L) {a : Nat} (ha : a < L.length) {s : ByteArray} {k : Nat} (hk : fnd (nat L a).e s = some k) (i : Nat) : up L i = up (Go.Proofs.YtinholnidchblaaGreatDoor.setE L a (ecut (nat L a).e s)) i + if k = i then 1 else 0 := by
  have h1 := up_setE ha (ecut (nat L a).e s) i
  have h2 := count_cut (h.rp a) hk i
  omega
/-- With an entry more, or another one in its place. -/
theorem Snd.put {L : List Nd} (h : Snd L) {a : Nat} (ha : a < L.length) (hd : isD (nat L a) = true) {s : ByteArray} {k : Nat} (hs : nmB s.data.toList = true) (hk : 1 ≤ k) (hkl : k < L.length) (hl : (ecut (nat L a).e s).length < 64)
    (hu : if isD (nat L k) then up L k = 0 else up L k < 200) : Snd (Go.Proofs.YtinholnidchblaaGreatDoor.setE L a (eput (nat L a).e ⟨s, (k : Int)⟩)) := by
  have h0 : ∀ i, up (Go.Proofs.YtinholnidchblaaGreatDoor.setE L a (eput (nat L a).e ⟨s, (k : Int)⟩)) i ≤ up L i + if k = i then 1 else 0 := fun i => by
    have h1 := up_setE ha (eput (nat L a).e ⟨s, (k : Int)⟩) i
    have h2 := count_put (h.rp a) ⟨s, (k : Int)⟩ i
    have h3 := count_cut_le (E := (nat L a).e) s i
    have h4 : inoN ⟨s, (k : Int)⟩ = k := by simp [inoN]
    rw [h4] at h2
    simp only at h2
    omega
  refine h.setE ha hd ((h.dir ha hd).ent.put hs (by simp only; omega) (by simp only; omega) hl) (fun i hi hdi => ?_) (fun i h1 hi hdi => ?_)
  · refine Nat.le_trans (h0 i) ?_
    split
    · rename_i e
      subst e
      rw [hdi, if_neg (by decide)] at hu
      omega
    · have := h.many i hi hdi; omega
  · refine Nat.le_trans (h0 i) ?_
    split
    · rename_i e
      subst e
      rw [hdi, if_pos rfl] at hu
      omega
    · have := h.one i h1 hi hdi; omega
/-- With other bytes in a file. -/
def setD (L : List Nd) (a : Nat) (b : List Int) : List Nd := L.set a { nat L a with d := b }
theorem setD_len (L : List Nd) (a : Nat) (b : List Int) : (setD L a b).length = L.length := by simp [setD]
theorem nat_setD {L : List Nd} {a : Nat} (h : a < L.length) (b : List Int) (j : Nat) : nat (setD L a b) j = if a = j then { nat L a with d := b } else nat L j := nat_set L a j _ h
theorem isD_setD {L : List Nd} {a : Nat} (h : a < L.length) (b : List Int) (j : Nat) : isD (nat (setD L a b) j) = isD (nat L j) := by
  rw [nat_setD h]
  split
  · rename_i e; rw [← e]; rfl
  · rfl
theorem nat_setD_e {L : List Nd} {a : Nat} (h : a < L.length) (b : List Int) (j : Nat) : (nat (setD L a b) j).e = (nat L j).e ∧ (nat (setD L a b) j).l = (nat L j).l := by
  rw [nat_setD h]
  split
  · rename_i e; rw [← e]; exact ⟨rfl, rfl⟩
  · exact ⟨rfl, rfl⟩
theorem chs_setD {L : List Nd} {a : Nat} (h : a < L.length) (b : List Int) : chs (setD L a b) = chs L := by
  funext j
  simp only [chs, inos, (nat_setD_e h b j).1]
theorem up_setD {L : List Nd} {a : Nat} (h : a < L.length) (b : List Int) (i : Nat) : up (setD L a b) i = up L i := by simp only [up, setD_len, chs_setD h]
theorem lnk_setD {L : List Nd} {a : Nat} (h : a < L.length) (b : List Int) (i : Nat) : lnk (setD L a b) i = lnk L i := by
  simp only [lnk, isD_setD h, up_setD h, inos, (nat_setD_e h b i).1]
theorem Rgt.setD {L : List Nd} (h : Rgt L) {a : Nat} (ha : a < L.length) (hd : isD (nat L a) = false) {b : List Int} (hb : b.length ≤ 46368) : Rgt (Go.Proofs.YtinholnidchblaaGreatDoor.setD L a b) := by
  refine ⟨by rw [setD_len]; exact h.pos, by rw [setD_len]; exact h.few, by rw [isD_setD ha]; exact h.root, fun i hi => ?_, by rw [chs_setD ha, setD_len]; exact h.met, fun i hi => ?_, fun i h0 hi hdi => ?_⟩
  · rw [setD_len] at hi ⊢
    rw [nat_setD ha]
    split
    · rename_i e
      subst e
      rcases h.node a ha with k | k
      · exact .inl ⟨⟨k.1.1, k.1.2.1, hb⟩, k.2⟩
      · rw [isD_dir k] at hd; cases hd
    · exact h.node i hi
  · rw [setD_len] at hi
    rw [lnk_setD ha, (nat_setD_e ha b i).2]; exact h.link i hi
  · rw [setD_len] at hi
    rw [isD_setD ha] at hdi
    rw [up_setD ha]; exact h.one i h0 hi hdi
/-- With a node more, that no entry tells yet. -/
theorem nat_snoc (L : List Nd) (x : Nd) (j : Nat) : nat (L ++ [x]) j = if j = L.length then x else nat L j := by
  simp only [nat, List.getD_eq_getElem?_getD]
  by_cases h : j < L.length
  · rw [if_neg (by omega), List.getElem?_append_left h]
  · rw [List.getElem?_append_right (by omega)]
    by_cases e : j = L.length
    · subst e; simp
    · rw [if_neg e, List.getElem?_eq_none (by simp; omega), List.getElem?_eq_none (by omega)]
theorem Snd.snoc {L : List Nd} (h : Snd L) (hf : L.length < 56) {x : Nd} (hx : fileOk x ∨ x.k = 2 ∧ x.d = []) (he : x.e = []) : Snd (L ++ [x]) ∧ (∀ i, up (L ++ [x]) i = up L i) ∧ up L L.length = 0 := by
  have hlen : (L ++ [x]).length = L.length + 1 := by simp
  have hch : ∀ j, chs (L ++ [x]) j = chs L j := fun j => by
    simp only [chs]
    rw [nat_snoc]
    split
    · rename_i e
      rw [nat_out (by omega), inos, he]; rfl
    · rfl
  have hu : ∀ i, up (L ++ [x]) i = up L i := fun i => by
    simp only [up, hlen, List.range_succ, List.map_append, List.sum_append, List.map_cons, List.map_nil, List.sum_cons, List.sum_nil, hch]
    have : chs L L.length = [] := by simp only [chs]; rw [nat_out (Nat.le_refl _)]; rfl
    rw [this]; simp
  have h0 : up L L.length = 0 := by
    simp only [up]
    have : (List.range L.length).map (fun a => (chs L a).count L.length) = (List.range L.length).map fun _ => 0 := by
      refine List.map_congr_left fun a ha => ?_
      rw [List.count_eq_zero]
      intro hm
      have := (h.ino (List.mem_range.1 ha) _ hm).2
      omega
    rw [this]
    simp [List.map_const', List.sum_replicate_nat]
  refine ⟨⟨by omega, by omega, ?_, fun i hi => ?_, fun i hi hd => ?_, fun i hp hi hd => ?_⟩, hu, h0⟩
  · rw [nat_snoc, if_neg (by have := h.pos; omega)]; exact h.root
  · rw [nat_snoc]
    split
    · rcases hx with hx | hx
      · exact .inl hx
      · exact .inr ⟨hx.1, hx.2, by rw [he]; simp, (fun y hy => by rw [he] at hy; cases hy), by rw [he]; rfl⟩
    · rcases h.node i (by omega) with k | k
      · exact .inl k
      · refine .inr ⟨k.1, k.2.1, k.2.2.1, fun y hy => ?_, k.2.2.2.2⟩
        have := k.2.2.2.1 y hy
        exact ⟨this.1, this.2.1, by omega⟩
  · rw [hu]
    by_cases e : i = L.length
    · rw [e, h0]; omega
    · rw [nat_snoc, if_neg e] at hd
      exact h.many i (by omega) hd
  · rw [hu]
    by_cases e : i = L.length
    · rw [e, h0]; omega
    · rw [nat_snoc, if_neg e] at hd
      exact h.one i hp (by omega) hd
end Go.Proofs.YtinholnidchblaaGreatDoor

/-
  Trees, plainly: walks along names, what other numbers and other entries make of them; a directory has one path.
-/
namespace Go.Proofs.YtinholnidchblaaGreatDoor
set_option linter.unusedVariables false
set_option linter.unusedSimpArgs false

/-- The place of names from a node on, or what is told. -/
def wlk (L : List Nd) : Nat → List ByteArray → Except Int Nat
  | a, [] => .ok a
  | a, n :: ns => if isD (nat L a) then (match fnd (nat L a).e n with | some k => wlk L k ns | none => .error 21) else .error 22
theorem wlk_nil (L : List Nd) (a : Nat) : wlk L a [] = .ok a := rfl
theorem wlk_yes {L : List Nd} {a : Nat} {n : ByteArray} {ns : List ByteArray} {k : Nat} (hd : isD (nat L a) = true) (hf : fnd (nat L a).e n = some k) : wlk L a (n :: ns) = wlk L k ns := by rw [wlk, if_pos hd, hf]
theorem wlk_none {L : List Nd} {a : Nat} {n : ByteArray} {ns : List ByteArray} (hd : isD (nat L a) = true) (hf : fnd (nat L a).e n = none) : wlk L a (n :: ns) = .error 21 := by rw [wlk, if_pos hd, hf]
theorem wlk_file {L : List Nd} {a : Nat} {n : ByteArray} {ns : List ByteArray} (hd : isD (nat L a) = false) : wlk L a (n :: ns) = .error 22 := by rw [wlk, hd, if_neg (by decide)]
theorem wlk_cons_ok {L : List Nd} {a b : Nat} {n : ByteArray} {ns : List ByteArray} (h : wlk L a (n :: ns) = .ok b) : isD (nat L a) = true ∧ ∃ k, fnd (nat L a).e n = some k ∧ wlk L k ns = .ok b := by
  cases hd : isD (nat L a) with
  | false => rw [wlk_file hd] at h; cases h
  | true =>
    cases hf : fnd (nat L a).e n with
    | none => rw [wlk_none hd hf] at h; cases h
    | some k => rw [wlk_yes hd hf] at h; exact ⟨rfl, k, rfl, h⟩
theorem fnd_ino {L : List Nd} {a k : Nat} {n : ByteArray} (h : fnd (nat L a).e n = some k) : k ∈ chs L a := fnd_mem h
theorem wlk_in {L : List Nd} {S : Nat → Prop} (hc : ∀ x, S x → ∀ k ∈ chs L x, S k) : ∀ {ns : List ByteArray} {a b : Nat}, S a → wlk L a ns = .ok b → S b
  | [], a, b, ha, h => by cases h; exact ha
  | n :: ns, a, b, ha, h => by
    obtain ⟨_, k, hf, h⟩ := wlk_cons_ok h
    exact wlk_in hc (hc a ha k (fnd_ino hf)) h
theorem Snd.wlklt {L : List Nd} (h : Snd L) {ns : List ByteArray} {b : Nat} (hw : wlk L 0 ns = .ok b) : b < L.length :=
  wlk_in (S := (· < L.length)) h.lt (by have := h.pos; omega) hw
theorem wlk_app (L : List Nd) : ∀ (ns ms : List ByteArray) (a : Nat), wlk L a (ns ++ ms) = match wlk L a ns with | .ok b => wlk L b ms | .error e => .error e
  | [], ms, a => rfl
  | n :: ns, ms, a => by
    rw [List.cons_append]
    cases hd : isD (nat L a) with
    | false => rw [wlk_file hd, wlk_file hd]
    | true =>
      cases hf : fnd (nat L a).e n with
      | none => rw [wlk_none hd hf, wlk_none hd hf]
      | some k => rw [wlk_yes hd hf, wlk_yes hd hf]; exact wlk_app L ns ms k
theorem wlk_app_ok {L : List Nd} {ns ms : List ByteArray} {a b : Nat} (h : wlk L a ns = .ok b) : wlk L a (ns ++ ms) = wlk L b ms := by rw [wlk_app, h]
theorem wlk_snoc_ok {L : List Nd} {ns : List ByteArray} {n : ByteArray} {a b : Nat} (h : wlk L a (ns ++ [n]) = .ok b) : ∃ c, wlk L a ns = .ok c ∧ isD (nat L c) = true ∧ fnd (nat L c).e n = some b := by
  rw [wlk_app] at h
  cases hw : wlk L a ns with
  | error e => rw [hw] at h; cases h
  | ok c =>
    rw [hw] at h
    obtain ⟨hd, k, hf, hk⟩ := wlk_cons_ok h
    cases hk
    exact ⟨c, rfl, hd, hf⟩
theorem Iso.isD {L M : List Nd} {f : Nat → Nat} {S : Nat → Prop} (h : Iso L M f S) {x : Nat} (hx : S x) : Go.Proofs.YtinholnidchblaaGreatDoor.isD (nat M (f x)) = Go.Proofs.YtinholnidchblaaGreatDoor.isD (nat L x) := by
  have := congrArg Go.Proofs.YtinholnidchblaaGreatDoor.isD (h.node x hx)
  exact this
theorem setI_id_fnd (E : List En) (n : ByteArray) : fnd (E.map (setI id)) n = fnd E n := by rw [fnd_setI]; cases fnd E n <;> rfl
theorem Iso.fnd {L M : List Nd} {f : Nat → Nat} {S : Nat → Prop} (h : Iso L M f S) {x : Nat} (hx : S x) (n : ByteArray) : Go.Proofs.YtinholnidchblaaGreatDoor.fnd (nat M (f x)).e n = (Go.Proofs.YtinholnidchblaaGreatDoor.fnd (nat L x).e n).map f := by
  have := congrArg (fun y : Nd => Go.Proofs.YtinholnidchblaaGreatDoor.fnd y.e n) (h.node x hx)
  simp only [ren] at this
  rw [setI_id_fnd, fnd_setI] at this
  exact this
/-- A walk by other numbers. -/
theorem Iso.wlk {L M : List Nd} {f : Nat → Nat} {S : Nat → Prop} (h : Iso L M f S) : ∀ (ns : List ByteArray) {a : Nat}, S a → Go.Proofs.YtinholnidchblaaGreatDoor.wlk M (f a) ns = (Go.Proofs.YtinholnidchblaaGreatDoor.wlk L a ns).map f
  | [], a, ha => rfl
  | n :: ns, a, ha => by
    cases hd : Go.Proofs.YtinholnidchblaaGreatDoor.isD (nat L a) with
    | false => rw [wlk_file hd, wlk_file (by rw [h.isD ha]; exact hd)]; rfl
    | true =>
      have hd' : Go.Proofs.YtinholnidchblaaGreatDoor.isD (nat M (f a)) = true := by rw [h.isD ha]; exact hd
      have hf' := h.fnd ha n
      cases hf : Go.Proofs.YtinholnidchblaaGreatDoor.fnd (nat L a).e n with
      | none =>
        rw [hf] at hf'
        rw [wlk_none hd hf, wlk_none hd' hf']; rfl
      | some k =>
        rw [hf] at hf'
        rw [wlk_yes hd hf, wlk_yes hd' hf']
        exact h.wlk ns (h.cl a ha k (fnd_ino hf))
theorem Iso.wlk0 {L M : List Nd} {f : Nat → Nat} {S : Nat → Prop} (h : Iso L M f S) (ns : List ByteArray) : Go.Proofs.YtinholnidchblaaGreatDoor.wlk M 0 ns = (Go.Proofs.YtinholnidchblaaGreatDoor.wlk L 0 ns).map f := by
  have := h.wlk ns h.z
  rw [h.f0] at this
  exact this
theorem Snd.wlk_num {L : List Nd} (h : Snd L) (ns : List ByteArray) : Go.Proofs.YtinholnidchblaaGreatDoor.wlk (num L) 0 ns = (Go.Proofs.YtinholnidchblaaGreatDoor.wlk L 0 ns).map (plc (chs L)) := h.iso.wlk0 ns
theorem Snd.wlk_met {L : List Nd} (h : Snd L) {ns : List ByteArray} {b : Nat} (hw : Go.Proofs.YtinholnidchblaaGreatDoor.wlk L 0 ns = .ok b) : b ∈ met (chs L) := wlk_in (S := (· ∈ met (chs L))) h.closed (met_zero _) hw
/-- Where some entries aren't the same, a walk that doesn't use one of them is. -/
theorem wlk_off {L M : List Nd} {B : Nat → ByteArray → Prop} (hd : ∀ j, isD (nat M j) = isD (nat L j)) (hf : ∀ j n, ¬ B j n → fnd (nat M j).e n = fnd (nat L j).e n) :
    ∀ {ns : List ByteArray} {a : Nat}, (∀ p n q j, ns = p ++ n :: q → wlk L a p = .ok j → ¬ B j n) → wlk M a ns = wlk L a ns
  | [], a, h => rfl
  | n :: ns, a, h => by
    have h0 := hf a n (h [] n ns a rfl rfl)
    cases hda : isD (nat L a) with
    | false => rw [wlk_file hda, wlk_file (by rw [hd]; exact hda)]
    | true =>
      have hda' : isD (nat M a) = true := by rw [hd]; exact hda
      cases hfa : fnd (nat L a).e n with
      | none => rw [wlk_none hda hfa, wlk_none hda' (by rw [h0]; exact hfa)]
      | some k =>
        rw [wlk_yes hda hfa, wlk_yes hda' (by rw [h0]; exact hfa)]
        refine wlk_off hd hf fun p m q j e hw => h (n :: p) m q j (by rw [e]; rfl) (by rw [wlk_yes hda hfa]; exact hw)
theorem sum_two {g : Nat → Nat} : ∀ {n a b : Nat}, a < n → b < n → a ≠ b → g a + g b ≤ ((List.range n).map g).sum
  | 0, a, b, h, _, _ => by omega
  | n + 1, a, b, ha, hb, hne => by
    rw [List.range_succ, List.map_append, List.sum_append]
    simp only [List.map_cons, List.map_nil, List.sum_cons, List.sum_nil]
    by_cases e : a = n
    · subst e
      have := sum_mem (g := g) (l := List.range a) (x := b) (List.mem_range.2 (by omega))
      omega
    · by_cases e' : b = n
      · subst e'
        have := sum_mem (g := g) (l := List.range b) (x := a) (List.mem_range.2 (by omega))
        omega
      · have := sum_two (g := g) (n := n) (a := a) (b := b) (by omega) (by omega) hne
        omega
theorem up_one {L : List Nd} {a k : Nat} (ha : a < L.length) (h : k ∈ chs L a) : 1 ≤ up L k := by
  have h1 := sum_mem (g := fun j => (chs L j).count k) (l := List.range L.length) (x := a) (List.mem_range.2 ha)
  have h2 : 1 ≤ (chs L a).count k := List.count_pos_iff.2 h
  exact Nat.le_trans h2 h1
/-- An entry that one place alone tells. -/
theorem up_unique {L : List Nd} (h : Snd L) {a b k : Nat} {n m : ByteArray} (ha : a < L.length) (hb : b < L.length) (hn : fnd (nat L a).e n = some k) (hm : fnd (nat L b).e m = some k) (hu : up L k ≤ 1) : a = b ∧ n = m := by
  have h1 : 1 ≤ (chs L a).count k := List.count_pos_iff.2 (fnd_ino hn)
  have h2 : 1 ≤ (chs L b).count k := List.count_pos_iff.2 (fnd_ino hm)
  by_cases e : a = b
  · subst e
    refine ⟨rfl, ?_⟩
    by_cases e : n = m
    · exact e
    · exfalso
      have h3 := count_cut (h.rp a) hn k
      have h4 : fnd (ecut (nat L a).e n) m = some k := by rw [fnd_cut (h.rp a), if_neg (fun e' => e e'.symm)]; exact hm
      have h5 : 1 ≤ ((ecut (nat L a).e n).map inoN).count k := List.count_pos_iff.2 (fnd_mem h4)
      rw [if_pos rfl] at h3
      have h6 := sum_mem (g := fun j => (chs L j).count k) (l := List.range L.length) (x := a) (List.mem_range.2 ha)
      have h7 : (chs L a).count k ≤ up L k := h6
      have h8 : (chs L a).count k = ((nat L a).e.map inoN).count k := rfl
      omega
  · exfalso
    have h3 : (chs L a).count k + (chs L b).count k ≤ up L k := sum_two (g := fun j => (chs L j).count k) ha hb e
    omega
theorem snoc_of_ne {α : Type} {l : List α} (h : l ≠ []) : ∃ p x, l = p ++ [x] := ⟨l.dropLast, l.getLast h, (List.dropLast_concat_getLast h).symm⟩
/-- A directory has one path alone. -/
theorem Snd.path {L : List Nd} (h : Snd L) : ∀ (m : Nat) {p q : List ByteArray} {a : Nat}, p.length = m → Go.Proofs.YtinholnidchblaaGreatDoor.wlk L 0 p = .ok a → Go.Proofs.YtinholnidchblaaGreatDoor.wlk L 0 q = .ok a → isD (nat L a) = true → p = q := by
  intro m
  induction m with
  | zero =>
    intro p q a hm hp hq hd
    have e : p = [] := List.length_eq_zero_iff.1 hm
    subst e
    cases hp
    by_cases hq0 : q = []
    · exact hq0.symm
    · obtain ⟨q', y, rfl⟩ := snoc_of_ne hq0
      obtain ⟨c, hc, _, hf⟩ := wlk_snoc_ok hq
      have := (h.ino (h.wlklt hc) 0 (fnd_ino hf)).1
      omega
  | succ m ih =>
    intro p q a hm hp hq hd
    obtain ⟨p', x, rfl⟩ := snoc_of_ne (l := p) (by intro e; rw [e] at hm; simp at hm)
    obtain ⟨b, hb, hbd, hbf⟩ := wlk_snoc_ok hp
    have ha0 := h.ino (h.wlklt hb) a (fnd_ino hbf)
    by_cases hq0 : q = []
    · subst hq0
      cases hq
      omega
    · obtain ⟨q', y, rfl⟩ := snoc_of_ne hq0
      obtain ⟨c, hc, hcd, hcf⟩ := wlk_snoc_ok hq
      obtain ⟨e1, e2⟩ := up_unique h (h.wlklt hb) (h.wlklt hc) hbf hcf (h.one a (by omega) ha0.2 hd)
      subst e1 e2
      rw [ih (by simpa using hm) hb hc hbd]
end Go.Proofs.YtinholnidchblaaGreatDoor
