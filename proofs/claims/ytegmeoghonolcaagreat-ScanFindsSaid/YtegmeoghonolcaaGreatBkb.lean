/-
  The program's Read, by a contract that tells that what it answers is the call's own.
-/
import Derived.Test.YtegmeoghonolcaaGreatOpm
import Derived.Test.YtegmeoghonolcaaGreatRowO
import Derived.Test.YtegmeoghonolcaaGreatBka
import Derived.Test.YtegmeoghonolcaaGreatBase
set_option linter.unusedSimpArgs false
set_option linter.unusedVariables false
namespace Go.Proofs.YtegmeoghonolcaaGreat
open Go.RowKit Go.Maps

/-- Bytes of the call's own. -/
def RetO (w0 : World) (zs : List Int) (e : Ending) (w' : World) : Prop := ∃ v, e = .returned v ∧ Own w' w0.heap.size v zs.length zs ∧ Below w0.heap.size w0 w'
/-- .. and an error. -/
def RetP (w0 : World) (zs : List Int) (x : Int) (e : Ending) (w' : World) : Prop := ∃ v, e = .returned (.tuple #[v, .int .i64 x]) ∧ Own w' w0.heap.size v zs.length zs ∧ Below w0.heap.size w0 w'
theorem own_nil (w : World) (B : Nat) : Own w B (.slice none 0 0) 0 [] := ⟨World.ownsRow_nil _ _ _ _, fun z hz => by cases hz⟩
theorem RetP.nil (w : World) (x : Int) {e : Ending} {w' : World} (h : e = .returned (.tuple #[.slice none 0 0, .int .i64 x]) ∧ w = w') : RetP w [] x e w' := by
  obtain ⟨rfl, rfl⟩ := h
  exact ⟨_, rfl, own_nil _ _, Below.refl _ _⟩
theorem own_len {w : World} {B n : Nat} {v : Value} {zs : List Int} (h : Own w B v n zs) : Own w B v zs.length zs := by
  have := h.len
  subst this
  exact h

theorem readO_any (M : Nat → Prop) (S db o lb mb s : Nat) (d : Dk) (w : World) (h : DrvAt w M S db o lb mb d) (hS : S ≤ 4096) (hs : s < S) :
    Calls Tryz.prog 166 #[.pointer (some ⟨db, o, none⟩), .int .i64 s] w (RetO w (d.read s)) := by
  obtain ⟨n, D, hc⟩ := h.cache
  have c0 := h.c0
  have c1 := h.c1
  cases e : d.cache s with
  | some zs =>
    have er : d.read s = zs := by simp [Dk.read, e]
    obtain ⟨g, c, hg, hy, hrun⟩ := hc.look hS hs e
    rw [er]
    clear hc er e
    go_enter Tryz.func166, Tryz.ntmps166
    go_wp2_with (go_at_call 125; refine (clone_any _ _ _ _ _ _ hy (by omega)).mono ?_; rintro e w' ⟨v, rfl, hown, hb⟩)
    go_ret
    exact ⟨_, rfl, own_len hown, hb⟩
  | none =>
    have er : d.read s = sec d.last s := by simp [Dk.read, e]
    have hrun := hc.miss hS hs e
    have hy := h.blk.sec h.len h.small hs
    rw [er]
    clear hc er e
    go_enter Tryz.func166, Tryz.ntmps166
    go_wp2_with (first
      | (go_at_call 115; refine (lastingOf_any db o lb s S w c0 hs hS).mono ?_; rintro e w' ⟨rfl, rfl⟩)
      | (go_at_call 125; refine (clone_any _ _ _ _ _ _ hy (by omega)).mono ?_; rintro e w' ⟨v, rfl, hown, hb⟩))
    go_ret
    exact ⟨_, rfl, own_len hown, hb⟩

section
variable {M : Nat → Prop} {L : Lay} {R : Rk} {w : World}
theorem readO_ok (i s : Nat) (h : RackAt w M L R) (hoff : R.off = false) (hi : i < R.n) (hs : s < R.S) (hb : (R.d i).bad = false) :
    Calls Tryz.prog 122 #[.pointer (some ⟨L.p, 0, none⟩), .int .i64 i, .int .i64 s] w (RetP w ((R.d i).read s) 0) := by
  have c2 := h.c2
  rw [hoff] at c2
  have c0 := h.c0
  have b2 := (h.drv i hi).c2
  rw [hb] at b2
  have hsec := hasSector_yes L.p L.db R.n R.n R.S i s w h.c0 h.c1 (hasB_yes (by omega) (by omega) (by omega) (by omega))
  have hrd := readO_any M R.S L.db (i * 4) (L.lb i) (L.mb i) s (R.d i) w (h.drv i hi) h.fewS hs
  clear hoff hb
  go_enter Tryz.func122, Tryz.ntmps122
  go_wp2_with (first
    | (go_at_call 165; refine hsec.mono ?_; rintro e w' ⟨rfl, rfl⟩)
    | (go_at_call 166; refine hrd.mono ?_; rintro e w1 ⟨v, rfl, hown, hbl⟩))
  go_ret2
  exact ⟨v, rfl, hown, hbl⟩
theorem readP_all (i s : Int) (h : RackAt w M L R) :
    Calls Tryz.prog 122 #[.pointer (some ⟨L.p, 0, none⟩), .int .i64 i, .int .i64 s] w (RetP w (R.rdV i s) (R.rdE i s)) := by
  unfold Rk.rdV
  cases ho : R.off with
  | true =>
    refine (read_dead M L R w i s h ho).mono fun e w' he => ?_
    have : R.rdE i s = 12 := by simp [Rk.rdE, ho]
    rw [this]
    exact RetP.nil w 12 he
  | false =>
    by_cases hb : hasB R.n R.S i s = true
    · obtain ⟨x, y, rfl, rfl, hx, hy⟩ := hasB_nat hb
      cases hbad : (R.d x).bad with
      | true =>
        refine (read_failed M L R w x y h ho hx hy hbad).mono fun e w' he => ?_
        have : R.rdE x y = 13 := by simp [Rk.rdE, ho, hb, hbad]
        rw [this]
        exact RetP.nil w 13 he
      | false =>
        have : R.rdE x y = 0 := by simp [Rk.rdE, ho, hb, hbad]
        rw [this, if_pos rfl, Int.toNat_natCast, Int.toNat_natCast]
        exact readO_ok x y h ho hx hy hbad
    · have hb' : hasB R.n R.S i s = false := by simpa using hb
      refine (read_bad M L R w i s h ho hb').mono fun e w' he => ?_
      have : R.rdE i s = 11 := by simp [Rk.rdE, ho, hb']
      rw [this]
      exact RetP.nil w 11 he
end

end Go.Proofs.YtegmeoghonolcaaGreat

/-
  The bank's Flush, by contract.
-/
namespace Go.Proofs.YtegmeoghonolcaaGreat
open Go.RowKit Go.Maps
attribute [local go_sem] Oper.semAt_some

theorem Rk.wr_n (R : Rk) (i s : Int) (zs : List Int) : (R.wr i s zs).n = R.n := by
  unfold Rk.wr
  split
  · split
    · exact R.call_n
    · exact R.call_n
  · rfl
theorem Rk.fl_n (R : Rk) (i : Int) : (R.fl i).n = R.n := by
  unfold Rk.fl
  split
  · split
    · exact R.call_n
    · exact R.call_n
  · rfl

/-- What a flush says of the power. -/
def Rk.flT (R : Rk) (d : Int) : Int := if R.flE d = 12 then 12 else 0
theorem Rk.flT_12 {R : Rk} {d : Int} : R.flT d = 12 ↔ R.flE d = 12 := by unfold Rk.flT; split <;> simp_all
theorem Rk.flT_11 {R : Rk} {d : Int} : R.flT d ≠ 11 := by unfold Rk.flT; split <;> omega
/-- A rack flushed, disk by disk. -/
def flG (B : Bn) (R : Rk) (i : Nat) : Bool × Int × Rk := goN Rk.fl Rk.flT (fun i => B.disk (i : Int)) R i
theorem flG_n (B : Bn) (R : Rk) (i : Nat) : (flG B R i).2.2.n = R.n := goN_keep (fun x : Rk => x.n = R.n) rfl (fun x d h => (x.fl_n d).trans h) i
theorem flG_go {B : Bn} {R : Rk} {i : Nat} (h : (flG B R i).1 = false) (h2 : (flG B R i).2.2.flE (B.disk (i : Int)) ≠ 12) : flG B R (i + 1) = (false, (flG B R i).2.1, (flG B R i).2.2.fl (B.disk (i : Int))) := by
  have e : flG B R (i + 1) = _ := goN_go h (fun x => h2 (Rk.flT_12.1 x))
  rw [if_neg Rk.flT_11] at e
  exact e
theorem flG_stop {B : Bn} {R : Rk} {i : Nat} (h : (flG B R i).1 = false) (h2 : (flG B R i).2.2.flE (B.disk (i : Int)) = 12) : flG B R (i + 1) = (true, 12, (flG B R i).2.2.fl (B.disk (i : Int))) := goN_stop h (Rk.flT_12.2 h2)
theorem flG_0 (B : Bn) (R : Rk) (i : Nat) (h : (flG B R i).1 = false) : (flG B R i).2.1 = 0 := by
  induction i with
  | zero => rfl
  | succ i ih =>
    cases h1 : (flG B R i).1 with
    | true =>
      have e : flG B R (i + 1) = flG B R i := goN_on h1
      rw [e, h1] at h; cases h
    | false =>
      by_cases h2 : (flG B R i).2.2.flE (B.disk (i : Int)) = 12
      · rw [flG_stop h1 h2] at h; cases h
      · rw [flG_go h1 h2]
        exact ih h1

theorem Turn.put {N : Nat → Prop} {w0 w : World} {D : Nat} (h : Turn N w0 w) (hD : w0.heap.size ≤ D) (o : Obj) : Turn N w0 (w.putObj D o) :=
  ⟨h.os, h.tape, h.output, by simpa using h.size, fun k hk hn => (World.putObj_heap_other (by omega)).trans (h.block k hk hn)⟩

set_option maxRecDepth 100000 in
set_option maxHeartbeats 4000000 in
theorem flush_bank (M : Nat → Prop) (L : Lay) (R : Rk) (w : World) (b n : Nat) (B : Bn) (hr : RackAt w M L R) (hb : BnAt w b L.p B) (hbM : ¬ L.M R.n b) (hd : B.d = (n : Int)) (hn : n ≤ 16) :
    Calls Tryz.prog 17 #[.pointer (some ⟨b, 0, none⟩)] w (CallPost M L R (flG B R B.num).2.2 w (.int .i64 (flG B R B.num).2.1)) := by
  have hMlow : Hid (∀ k, L.M R.n k → k < w.heap.size) := fun k hk => hr.low k (hr.sub k hk)
  have HbM := Lib.hid hbM
  refine (callsIn_wide (n := 3)).1 ?_
  refine callsIn_of_wp_marks Tryz.func17 rfl trivial ?_ rfl
  simp only [Tryz.ntmps17, List.size_toArray, List.length_cons, List.length_nil, Nat.reduceAdd, Nat.reduceSub, Array.replicate_succ, Array.replicate_zero, List.push_toArray, List.append_toArray, List.nil_append, List.cons_append]
  gi_wp2
  obtain ⟨W0, hW0⟩ : ∃ W0, W0 = (w.alloc (Obj.cells #[Value.pointer (some { block := b, off := 0 })] 44)).alloc (Obj.cells #[Value.int IntKind.i64 0] 28) := ⟨_, rfl⟩
  have hsz : W0.heap.size = w.heap.size + 2 := by rw [hW0]; simp
  have hbl : Below w.heap.size w W0 := by rw [hW0]; exact ((Below.refl _ _).alloc (Nat.le_refl _) _).alloc (by simp) _
  have q0 : W0.cell? ⟨w.heap.size, 0, none⟩ = some (.pointer (some ⟨b, 0, none⟩)) := by rw [hW0]; simp
  have q1 : W0.cell? ⟨w.heap.size + 1, 0, none⟩ = some (.int .i64 0) := by rw [hW0]; simp
  have q2 : W0.frozen? ⟨w.heap.size + 1, 0, none⟩ = false := by rw [hW0]; simp
  rw [← hW0]
  clear hW0
  refine wp_over (Kp := Turn (fun k => L.M R.n k ∨ k = w.heap.size + 1)) rfl (enters_of Tryz.func36 (by kernel_rfl) rfl) (disks_rounds b L.p n B hd hn) rfl
    (fun i X => (flG B R i).1 = false ∧ RackAt X (also M (· = w.heap.size + 1)) L (flG B R i).2.2 ∧ BnAt X b L.p B ∧ X.cell? ⟨w.heap.size, 0, none⟩ = some (.pointer (some ⟨b, 0, none⟩)) ∧ X.cell? ⟨w.heap.size + 1, 0, none⟩ = some (.int .i64 0) ∧ X.frozen? ⟨w.heap.size + 1, 0, none⟩ = false ∧ Turn (L.M R.n) w X)
    (fun c X => c = .ret ∧ RackAt X (also M (· = w.heap.size + 1)) L (flG B R B.num).2.2 ∧ (flG B R B.num).2.1 = 12 ∧ X.cell? ⟨w.heap.size + 1, 0, none⟩ = some (.int .i64 12) ∧ Turn (L.M R.n) w X)
    (fun i X h => h.2.2.1)
    (fun i X X' l hl ha h => ⟨h.1, h.2.1.aside ha (fun x => by rw [flG_n] at x; have := hMlow.out l x; omega), h.2.2.1.aside ha, ha.cell h.2.2.2.1, ha.cell h.2.2.2.2.1, (ha.frozen h.2.2.2.2.1).trans h.2.2.2.2.2.1, h.2.2.2.2.2.2.aside ha (by omega)⟩)
    (fun c X X' l hl ha h => ⟨h.1, h.2.1.aside ha (fun x => by rw [flG_n] at x; have := hMlow.out l x; omega), h.2.2.1, ha.cell h.2.2.2.1, h.2.2.2.2.aside ha (by omega)⟩)
    (fun X X' h => keeps_of_turn h (fun k hk => hk.elim (fun x => by have := hMlow.out k x; omega) (fun x => by omega)))
    ⟨rfl, hr.also hbl (fun k e => by omega), hb.next hbl, q0, q1, q2, Turn.of_below hbl⟩
    (fun i => { tmps := #[.pointer (some ⟨b, 0, none⟩), .pointer (some ⟨w.heap.size, 0, none⟩), .pointer (some ⟨w.heap.size + 1, 0, none⟩), .int .i64 (B.disk (i : Int)), .pointer (some ⟨b, 0, none⟩), .func (.func 36) #[.pointer (some ⟨b, 0, none⟩)] #[], .int .i64 (B.disk (i : Int)), undef, undef, undef, undef, undef, undef, undef], defers := [] }) ?assign ?body ?done ?stop
  case assign =>
    intro l i X K hi hK
    gi_wp2
    exact hK
  case body =>
    rintro l i X hi hle ⟨hs, hrX, hbX, c0, c1, f1, hT⟩
    have hfl := flush_all (B.disk (i : Int)) hrX
    have k0 := hbX.c0
    have hst := fun h2 => flG_stop (B := B) (R := R) (i := i) hs h2
    have hgo := fun h2 => flG_go (B := B) (R := R) (i := i) hs h2
    have hEnd := fun h1 => goN_end (st := Rk.fl) (er := Rk.flT) (ds := fun i => B.disk (i : Int)) (s := R) (i := i + 1) h1 B.num hi
    have hn1 := flG_n B R i
    obtain ⟨x, hx⟩ : ∃ x, x = (flG B R i).2.2.flE (B.disk (i : Int)) := ⟨_, rfl⟩
    rw [← hx] at hfl hst hgo
    have HX := Lib.hid hx
    have HST := Lib.hid hst
    have HGO := Lib.hid hgo
    have HE := Lib.hid hEnd
    have HN := Lib.hid hn1
    have HS := Lib.hid hs
    have hl1 : w.heap.size + 1 < X.heap.size := by omega
    have hl0 : w.heap.size < X.heap.size := by omega
    clear hx hst hgo hEnd hn1 hs hr
    have HNM : Hid (∀ k, w.heap.size ≤ k → ¬ L.M (flG B R i).2.2.n k) := fun k hk x => by rw [HN.out] at x; have := hMlow.out k x; omega
    by_cases h12 : x = 12
    · have HE1 := Lib.hid (HST.out h12)
      clear HST HGO
      subst h12
      gi_wp2_with (refine ⟨trivial, ?_⟩; gi_at_call 37; refine (CallsIn.inRound l (callsIn_wide.2 hfl)).mono ?_; clear hfl; rintro e w' ⟨rfl, hr', ht'⟩; have c1' := (ht'.cell (a := ⟨w.heap.size + 1, 0, none⟩) hl1 (HNM.out (w.heap.size + 1) (Nat.le_succ _))).trans c1; have f1' := (ht'.frozen (a := ⟨w.heap.size + 1, 0, none⟩) hl1 (HNM.out (w.heap.size + 1) (Nat.le_succ _))).trans f1)
      have hE := HE1.out
      have hE2 := HE.out (by show (flG B R (i + 1)).1 = true; rw [hE])
      have hfin : flG B R B.num = flG B R (i + 1) := hE2
      rw [hE] at hfin
      rw [HN.out] at ht'
      refine ⟨(ht'.mono fun k hk => .inl hk).trans (Turn.setCell _ (by exact .inr rfl) _), rfl, ?_, by rw [hfin], cell_set_same _ _ _ _ _ c1', (hT.trans ht').off (by omega) _⟩
      rw [hfin]
      exact hr'.store (.inr rfl) (by rw [Rk.fl_n]; exact HNM.out (w.heap.size + 1) (Nat.le_succ _)) _
    · have hz : (x == 12) = false := by simpa using h12
      gi_wp2_with (refine ⟨trivial, ?_⟩; gi_at_call 37; refine (CallsIn.inRound l (callsIn_wide.2 hfl)).mono ?_; clear hfl; rintro e w' ⟨rfl, hr', ht'⟩)
      rw [HN.out] at ht'
      have hE := HGO.out h12
      have hnm : ∀ k, w.heap.size ≤ k → ¬ L.M R.n k := fun k hk x => by have := hMlow.out k x; omega
      refine ⟨ht'.mono fun k hk => .inl hk, ?_⟩
      rw [hE]
      exact ⟨rfl, hr', hbX.turn ht' HbM.out, (ht'.cell (a := ⟨w.heap.size, 0, none⟩) hl0 (hnm _ (Nat.le_refl _))).trans c0, (ht'.cell (a := ⟨w.heap.size + 1, 0, none⟩) hl1 (hnm (w.heap.size + 1) (by omega))).trans c1, (ht'.frozen (a := ⟨w.heap.size + 1, 0, none⟩) hl1 (hnm (w.heap.size + 1) (by omega))).trans f1, hT.trans ht'⟩
  case done =>
    rintro D X hD ⟨hs, hrX, hbX, c0, c1, f1, hT⟩ hK
    have h0 := Lib.hid (flG_0 B R B.num hs)
    have HS := Lib.hid hs
    have hlt := World.block_lt_of_cell? X _ c1
    clear hs
    gi_wp2
    have hDn : D ≠ w.heap.size + 1 := by omega
    have hK' := (Below.heap_setCell X ⟨w.heap.size + 1, 0, none⟩ (.int .i64 0) D hDn).trans hK
    refine ⟨by simp, .inl ⟨_, _, rfl, run_takeDeferred hK', ?_⟩⟩
    have hA := aside_put hK' rfl (.deferred none)
    have c2 := hA.cell (cell_set_same X (w.heap.size + 1) 0 (.int .i64 0) _ c1)
    have hr2 := hrX.store (b := w.heap.size + 1) (i := 0) (.inr rfl) (by rw [flG_n]; exact fun x => by have := hMlow.out _ x; omega) (.int .i64 0)
    have hr3 := (hr2.aside hA (fun x => by rw [flG_n] at x; have := hMlow.out _ x; omega)).narrow (M := M) (fun k hk => .inl hk) (by rw [flG_n]; exact hr.sub)
    refine ⟨.int .i64 0, ?_, by rw [h0.out], hr3, (hT.off (by omega) _).put (by omega) _⟩
    simp [results, Tryz.f17, go_sem, c2]
  case stop =>
    rintro D c X hD ⟨rfl, hrX, h12, c1, hT⟩ hK
    gi_wp2
    refine ⟨by simp, .inl ⟨_, _, rfl, run_takeDeferred hK, ?_⟩⟩
    have hA := aside_put hK rfl (.deferred none)
    have c2 := hA.cell c1
    have hr3 := (hrX.aside hA (fun x => by rw [flG_n] at x; have := hMlow.out _ x; omega)).narrow (M := M) (fun k hk => .inl hk) (by rw [flG_n]; exact hr.sub)
    refine ⟨.int .i64 12, ?_, by rw [h12], hr3, hT.put (by omega) _⟩
    simp [results, Tryz.f17, go_sem, c2]

end Go.Proofs.YtegmeoghonolcaaGreat

/-
  Boxes: new blocks of one cell.
-/
namespace Go.Proofs.YtegmeoghonolcaaGreat
open Go.RowKit

theorem box_new (w : World) (v : Value) (t : TypeId) {p : Nat} (hp : w.heap.size = p) : (w.alloc (.cells #[v] t)).cell? ⟨p, 0, none⟩ = some v ∧ (w.alloc (.cells #[v] t)).frozen? ⟨p, 0, none⟩ = false := by
  subst hp
  exact ⟨by simp, by simp⟩
theorem cell_alloc_l {w : World} (o : Obj) {a : Addr} {v : Value} (h : w.cell? a = some v) : (w.alloc o).cell? a = some v :=
  (((Below.refl w.heap.size w).alloc (Nat.le_refl _) o).cell (p := a) (World.block_lt_of_cell? w _ h)).trans h
theorem frozen_alloc_l {w : World} (o : Obj) {a : Addr} {v : Value} (h : w.cell? a = some v) (hf : w.frozen? a = false) : (w.alloc o).frozen? a = false :=
  (((Below.refl w.heap.size w).alloc (Nat.le_refl _) o).frozen (p := a) (World.block_lt_of_cell? w _ h)).trans hf

end Go.Proofs.YtegmeoghonolcaaGreat

/-
  The bank's Everywhere, by contract.
-/
namespace Go.Proofs.YtegmeoghonolcaaGreat
open Go.RowKit Go.Maps
attribute [local go_sem] Oper.semAt_some

theorem bys_turn2 {N : Nat → Prop} {w w' : World} {a : Option Addr} {n : Nat} {zs : List Int} (h : Bys w a n zs) (ht : Turn N w w') (hm : n = 0 ∨ ∀ b off, a = some ⟨b, off, none⟩ → ¬ N b) : Bys w' a n zs := by
  rcases hm with h0 | hm
  · exact ⟨h.len, h.small, .inl h0⟩
  · exact bys_turn h ht hm

end Go.Proofs.YtegmeoghonolcaaGreat
