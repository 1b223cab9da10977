/-
  The program's Read, by a contract that tells that what it answers is the call's own.
-/
import Derived.Test.YtacnhlmhibhlhaaGreatOpm
import Derived.Test.YtacnhlmhibhlhaaGreatRw
import Derived.Test.YtacnhlmhibhlhaaGreatBka
import Derived.Test.YtacnhlmhibhlhaaGreatBase
import Derived.Deep.RegionHeld3
import Derived.Test.YtacnhlmhibhlhaaGreatDva
set_option linter.unusedSimpArgs false
set_option linter.unusedVariables false
namespace Go.Proofs.YtacnhlmhibhlhaaGreat
open Go.RowKit Go.Maps

/-- Bytes of the call's own. -/
def RetO (w0 : World) (zs : List Int) (e : Ending) (w' : World) : Prop := ∃ v, e = .returned v ∧ Own w' w0.heap.size v zs.length zs ∧ Below w0.heap.size w0 w'
/-- .. and an error. -/
def RetP (w0 : World) (zs : List Int) (x : Int) (e : Ending) (w' : World) : Prop := ∃ v, e = .returned (.tuple #[v, .int .i64 x]) ∧ Own w' w0.heap.size v zs.length zs ∧ Below w0.heap.size w0 w'
theorem own_nil (w : World) (B : Nat) : Own w B (.slice none 0 0) 0 [] := ⟨World.ownsRow_nil _ _ _ _, fun z hz => by cases hz⟩
theorem RetP.nil (w : World) (x : Int) {e : Ending} {w' : World} (h : e = .returned (.tuple #[.slice none 0 0, .int .i64 x]) ∧ w = w') : RetP w [] x e w' := by
  obtain ⟨rfl, rfl⟩ := h
  exact ⟨_, rfl, own_nil _ _, Below.refl _ _⟩
theorem own_len {w : World} {B n : Nat} {v : Value} {zs : List Int} (h : Own w B v n zs) : Own w B v zs.length zs := by
  have := h.len
  subst this
  exact h

theorem readO_any (M : Nat → Prop) (S db o lb mb s : Nat) (d : Dk) (w : World) (h : DrvAt w M S db o lb mb d) (hS : S ≤ 4096) (hs : s < S) :
    Calls Tryz.prog 166 #[.pointer (some ⟨db, o, none⟩), .int .i64 s] w (RetO w (d.read s)) := by
  obtain ⟨n, D, hc⟩ := h.cache
  have c0 := h.c0
  have c1 := h.c1
  cases e : d.cache s with
  | some zs =>
    have er : d.read s = zs := by simp [Dk.read, e]
    obtain ⟨g, c, hg, hy, hrun⟩ := hc.look hS hs e
    rw [er]
    clear hc er e
    go_enter Tryz.func166, Tryz.ntmps166
    go_wp2_with (go_at_call 125; refine (clone_any _ _ _ _ _ _ hy (by omega)).mono ?_; rintro e w' ⟨v, rfl, hown, hb⟩)
    go_ret
    exact ⟨_, rfl, own_len hown, hb⟩
  | none =>
    have er : d.read s = sec d.last s := by simp [Dk.read, e]
    have hrun := hc.miss hS hs e
    have hy := h.blk.sec h.len h.small hs
    rw [er]
    clear hc er e
    go_enter Tryz.func166, Tryz.ntmps166
    go_wp2_with (first
      | (go_at_call 115; refine (lastingOf_any db o lb s S w c0 hs hS).mono ?_; rintro e w' ⟨rfl, rfl⟩)
      | (go_at_call 125; refine (clone_any _ _ _ _ _ _ hy (by omega)).mono ?_; rintro e w' ⟨v, rfl, hown, hb⟩))
    go_ret
    exact ⟨_, rfl, own_len hown, hb⟩

section
variable {M : Nat → Prop} {L : Lay} {R : Rk} {w : World}
theorem readO_ok (i s : Nat) (h : RackAt w M L R) (hoff : R.off = false) (hi : i < R.n) (hs : s < R.S) (hb : (R.d i).bad = false) :
    Calls Tryz.prog 122 #[.pointer (some ⟨L.p, 0, none⟩), .int .i64 i, .int .i64 s] w (RetP w ((R.d i).read s) 0) := by
  have c2 := h.c2
  rw [hoff] at c2
  have c0 := h.c0
  have b2 := (h.drv i hi).c2
  rw [hb] at b2
  have hsec := hasSector_yes L.p L.db R.n R.n R.S i s w h.c0 h.c1 (hasB_yes (by omega) (by omega) (by omega) (by omega))
  have hrd := readO_any M R.S L.db (i * 4) (L.lb i) (L.mb i) s (R.d i) w (h.drv i hi) h.fewS hs
  clear hoff hb
  go_enter Tryz.func122, Tryz.ntmps122
  go_wp2_with (first
    | (go_at_call 165; refine hsec.mono ?_; rintro e w' ⟨rfl, rfl⟩)
    | (go_at_call 166; refine hrd.mono ?_; rintro e w1 ⟨v, rfl, hown, hbl⟩))
  go_ret2
  exact ⟨v, rfl, hown, hbl⟩
theorem readP_all (i s : Int) (h : RackAt w M L R) :
    Calls Tryz.prog 122 #[.pointer (some ⟨L.p, 0, none⟩), .int .i64 i, .int .i64 s] w (RetP w (R.rdV i s) (R.rdE i s)) := by
  unfold Rk.rdV
  cases ho : R.off with
  | true =>
    refine (read_dead M L R w i s h ho).mono fun e w' he => ?_
    have : R.rdE i s = 12 := by simp [Rk.rdE, ho]
    rw [this]
    exact RetP.nil w 12 he
  | false =>
    by_cases hb : hasB R.n R.S i s = true
    · obtain ⟨x, y, rfl, rfl, hx, hy⟩ := hasB_nat hb
      cases hbad : (R.d x).bad with
      | true =>
        refine (read_failed M L R w x y h ho hx hy hbad).mono fun e w' he => ?_
        have : R.rdE x y = 13 := by simp [Rk.rdE, ho, hb, hbad]
        rw [this]
        exact RetP.nil w 13 he
      | false =>
        have : R.rdE x y = 0 := by simp [Rk.rdE, ho, hb, hbad]
        rw [this, if_pos rfl, Int.toNat_natCast, Int.toNat_natCast]
        exact readO_ok x y h ho hx hy hbad
    · have hb' : hasB R.n R.S i s = false := by simpa using hb
      refine (read_bad M L R w i s h ho hb').mono fun e w' he => ?_
      have : R.rdE i s = 11 := by simp [Rk.rdE, ho, hb']
      rw [this]
      exact RetP.nil w 11 he
end

end Go.Proofs.YtacnhlmhibhlhaaGreat

/-
  The bank's Flush, by contract.
-/
namespace Go.Proofs.YtacnhlmhibhlhaaGreat
open Go.RowKit Go.Maps
attribute [local go_sem] Oper.semAt_some

theorem Rk.fl_n (R : Rk) (i : Int) : (R.fl i).n = R.n := by
  unfold Rk.fl
  split
  · split
    · exact R.call_n
    · exact R.call_n
  · rfl

/-- What a flush says of the power. -/
def Rk.flT (R : Rk) (d : Int) : Int := if R.flE d = 12 then 12 else 0
theorem Rk.flT_12 {R : Rk} {d : Int} : R.flT d = 12 ↔ R.flE d = 12 := by unfold Rk.flT; split <;> simp_all
theorem Rk.flT_11 {R : Rk} {d : Int} : R.flT d ≠ 11 := by unfold Rk.flT; split <;> omega
/-- A rack flushed, disk by disk. -/
def flG (B : Bn) (R : Rk) (i : Nat) : Bool × Int × Rk := goN Rk.fl Rk.flT (fun i => B.disk (i : Int)) R i
theorem flG_n (B : Bn) (R : Rk) (i : Nat) : (flG B R i).2.2.n = R.n := goN_keep (fun x : Rk => x.n = R.n) rfl (fun x d h => (x.fl_n d).trans h) i
theorem flG_go {B : Bn} {R : Rk} {i : Nat} (h : (flG B R i).1 = false) (h2 : (flG B R i).2.2.flE (B.disk (i : Int)) ≠ 12) : flG B R (i + 1) = (false, (flG B R i).2.1, (flG B R i).2.2.fl (B.disk (i : Int))) := by
  have e : flG B R (i + 1) = _ := goN_go h (fun x => h2 (Rk.flT_12.1 x))
  rw [if_neg Rk.flT_11] at e
  exact e
theorem flG_stop {B : Bn} {R : Rk} {i : Nat} (h : (flG B R i).1 = false) (h2 : (flG B R i).2.2.flE (B.disk (i : Int)) = 12) : flG B R (i + 1) = (true, 12, (flG B R i).2.2.fl (B.disk (i : Int))) := goN_stop h (Rk.flT_12.2 h2)
theorem flG_0 (B : Bn) (R : Rk) (i : Nat) (h : (flG B R i).1 = false) : (flG B R i).2.1 = 0 := by
  induction i with
  | zero => rfl
  | succ i ih =>
    cases h1 : (flG B R i).1 with
    | true =>
      have e : flG B R (i + 1) = flG B R i := goN_on h1
      rw [e, h1] at h; cases h
    | false =>
      by_cases h2 : (flG B R i).2.2.flE (B.disk (i : Int)) = 12
      · rw [flG_stop h1 h2] at h; cases h
      · rw [flG_go h1 h2]
        exact ih h1

theorem Turn.put {N : Nat → Prop} {w0 w : World} {D : Nat} (h : Turn N w0 w) (hD : w0.heap.size ≤ D) (o : Obj) : Turn N w0 (w.putObj D o) :=
  ⟨h.os, h.tape, h.output, by simpa using h.size, fun k hk hn => (World.putObj_heap_other (by omega)).trans (h.block k hk hn)⟩

set_option maxRecDepth 100000 in
set_option maxHeartbeats 4000000 in
theorem flush_bank (M : Nat → Prop) (L : Lay) (R : Rk) (w : World) (b n : Nat) (B : Bn) (hr : RackAt w M L R) (hb : BnAt w b L.p B) (hbM : ¬ L.M R.n b) (hd : B.d = (n : Int)) (hn : n ≤ 16) :
    Calls Tryz.prog 17 #[.pointer (some ⟨b, 0, none⟩)] w (CallPost M L R (flG B R B.num).2.2 w (.int .i64 (flG B R B.num).2.1)) := by
  have hMlow : Hid (∀ k, L.M R.n k → k < w.heap.size) := fun k hk => hr.low k (hr.sub k hk)
  have HbM := Lib.hid hbM
  refine (callsIn_wide (n := 3)).1 ?_
  refine callsIn_of_wp_marks Tryz.func17 rfl trivial ?_ rfl
  simp only [Tryz.ntmps17, List.size_toArray, List.length_cons, List.length_nil, Nat.reduceAdd, Nat.reduceSub, Array.replicate_succ, Array.replicate_zero, List.push_toArray, List.append_toArray, List.nil_append, List.cons_append]
  gi_wp2
  obtain ⟨W0, hW0⟩ : ∃ W0, W0 = (w.alloc (Obj.cells #[Value.pointer (some { block := b, off := 0 })] 44)).alloc (Obj.cells #[Value.int IntKind.i64 0] 28) := ⟨_, rfl⟩
  have hsz : W0.heap.size = w.heap.size + 2 := by rw [hW0]; simp
  have hbl : Below w.heap.size w W0 := by rw [hW0]; exact ((Below.refl _ _).alloc (Nat.le_refl _) _).alloc (by simp) _
  have q0 : W0.cell? ⟨w.heap.size, 0, none⟩ = some (.pointer (some ⟨b, 0, none⟩)) := by rw [hW0]; simp
  have q1 : W0.cell? ⟨w.heap.size + 1, 0, none⟩ = some (.int .i64 0) := by rw [hW0]; simp
  have q2 : W0.frozen? ⟨w.heap.size + 1, 0, none⟩ = false := by rw [hW0]; simp
  rw [← hW0]
  clear hW0
  refine wp_over (Kp := Turn (fun k => L.M R.n k ∨ k = w.heap.size + 1)) rfl (enters_of Tryz.func36 (by kernel_rfl) rfl) (disks_rounds b L.p n B hd hn) rfl
    (fun i X => (flG B R i).1 = false ∧ RackAt X (also M (· = w.heap.size + 1)) L (flG B R i).2.2 ∧ BnAt X b L.p B ∧ X.cell? ⟨w.heap.size, 0, none⟩ = some (.pointer (some ⟨b, 0, none⟩)) ∧ X.cell? ⟨w.heap.size + 1, 0, none⟩ = some (.int .i64 0) ∧ X.frozen? ⟨w.heap.size + 1, 0, none⟩ = false ∧ Turn (L.M R.n) w X)
    (fun c X => c = .ret ∧ RackAt X (also M (· = w.heap.size + 1)) L (flG B R B.num).2.2 ∧ (flG B R B.num).2.1 = 12 ∧ X.cell? ⟨w.heap.size + 1, 0, none⟩ = some (.int .i64 12) ∧ Turn (L.M R.n) w X)
    (fun i X h => h.2.2.1)
    (fun i X X' l hl ha h => ⟨h.1, h.2.1.aside ha (fun x => by rw [flG_n] at x; have := hMlow.out l x; omega), h.2.2.1.aside ha, ha.cell h.2.2.2.1, ha.cell h.2.2.2.2.1, (ha.frozen h.2.2.2.2.1).trans h.2.2.2.2.2.1, h.2.2.2.2.2.2.aside ha (by omega)⟩)
    (fun c X X' l hl ha h => ⟨h.1, h.2.1.aside ha (fun x => by rw [flG_n] at x; have := hMlow.out l x; omega), h.2.2.1, ha.cell h.2.2.2.1, h.2.2.2.2.aside ha (by omega)⟩)
    (fun X X' h => keeps_of_turn h (fun k hk => hk.elim (fun x => by have := hMlow.out k x; omega) (fun x => by omega)))
    ⟨rfl, hr.also hbl (fun k e => by omega), hb.next hbl, q0, q1, q2, Turn.of_below hbl⟩
    (fun i => { tmps := #[.pointer (some ⟨b, 0, none⟩), .pointer (some ⟨w.heap.size, 0, none⟩), .pointer (some ⟨w.heap.size + 1, 0, none⟩), .int .i64 (B.disk (i : Int)), .pointer (some ⟨b, 0, none⟩), .func (.func 36) #[.pointer (some ⟨b, 0, none⟩)] #[], .int .i64 (B.disk (i : Int)), undef, undef, undef, undef, undef, undef, undef], defers := [] }) ?assign ?body ?done ?stop
  case assign =>
    intro l i X K hi hK
    gi_wp2
    exact hK
  case body =>
    rintro l i X hi hle ⟨hs, hrX, hbX, c0, c1, f1, hT⟩
    have hfl := flush_all (B.disk (i : Int)) hrX
    have k0 := hbX.c0
    have hst := fun h2 => flG_stop (B := B) (R := R) (i := i) hs h2
    have hgo := fun h2 => flG_go (B := B) (R := R) (i := i) hs h2
    have hEnd := fun h1 => goN_end (st := Rk.fl) (er := Rk.flT) (ds := fun i => B.disk (i : Int)) (s := R) (i := i + 1) h1 B.num hi
    have hn1 := flG_n B R i
    obtain ⟨x, hx⟩ : ∃ x, x = (flG B R i).2.2.flE (B.disk (i : Int)) := ⟨_, rfl⟩
    rw [← hx] at hfl hst hgo
    have HX := Lib.hid hx
    have HST := Lib.hid hst
    have HGO := Lib.hid hgo
    have HE := Lib.hid hEnd
    have HN := Lib.hid hn1
    have HS := Lib.hid hs
    have hl1 : w.heap.size + 1 < X.heap.size := by omega
    have hl0 : w.heap.size < X.heap.size := by omega
    clear hx hst hgo hEnd hn1 hs hr
    have HNM : Hid (∀ k, w.heap.size ≤ k → ¬ L.M (flG B R i).2.2.n k) := fun k hk x => by rw [HN.out] at x; have := hMlow.out k x; omega
    by_cases h12 : x = 12
    · have HE1 := Lib.hid (HST.out h12)
      clear HST HGO
      subst h12
      gi_wp2_with (refine ⟨trivial, ?_⟩; gi_at_call 37; refine (CallsIn.inRound l (callsIn_wide.2 hfl)).mono ?_; clear hfl; rintro e w' ⟨rfl, hr', ht'⟩; have c1' := (ht'.cell (a := ⟨w.heap.size + 1, 0, none⟩) hl1 (HNM.out (w.heap.size + 1) (Nat.le_succ _))).trans c1; have f1' := (ht'.frozen (a := ⟨w.heap.size + 1, 0, none⟩) hl1 (HNM.out (w.heap.size + 1) (Nat.le_succ _))).trans f1)
      have hE := HE1.out
      have hE2 := HE.out (by show (flG B R (i + 1)).1 = true; rw [hE])
      have hfin : flG B R B.num = flG B R (i + 1) := hE2
      rw [hE] at hfin
      rw [HN.out] at ht'
      refine ⟨(ht'.mono fun k hk => .inl hk).trans (Turn.setCell _ (by exact .inr rfl) _), rfl, ?_, by rw [hfin], cell_set_same _ _ _ _ _ c1', (hT.trans ht').off (by omega) _⟩
      rw [hfin]
      exact hr'.store (.inr rfl) (by rw [Rk.fl_n]; exact HNM.out (w.heap.size + 1) (Nat.le_succ _)) _
    · have hz : (x == 12) = false := by simpa using h12
      gi_wp2_with (refine ⟨trivial, ?_⟩; gi_at_call 37; refine (CallsIn.inRound l (callsIn_wide.2 hfl)).mono ?_; clear hfl; rintro e w' ⟨rfl, hr', ht'⟩)
      rw [HN.out] at ht'
      have hE := HGO.out h12
      have hnm : ∀ k, w.heap.size ≤ k → ¬ L.M R.n k := fun k hk x => by have := hMlow.out k x; omega
      refine ⟨ht'.mono fun k hk => .inl hk, ?_⟩
      rw [hE]
      exact ⟨rfl, hr', hbX.turn ht' HbM.out, (ht'.cell (a := ⟨w.heap.size, 0, none⟩) hl0 (hnm _ (Nat.le_refl _))).trans c0, (ht'.cell (a := ⟨w.heap.size + 1, 0, none⟩) hl1 (hnm (w.heap.size + 1) (by omega))).trans c1, (ht'.frozen (a := ⟨w.heap.size + 1, 0, none⟩) hl1 (hnm (w.heap.size + 1) (by omega))).trans f1, hT.trans ht'⟩
  case done =>
    rintro D X hD ⟨hs, hrX, hbX, c0, c1, f1, hT⟩ hK
    have h0 := Lib.hid (flG_0 B R B.num hs)
    have HS := Lib.hid hs
    have hlt := World.block_lt_of_cell? X _ c1
    clear hs
    gi_wp2
    have hDn : D ≠ w.heap.size + 1 := by omega
    have hK' := (Below.heap_setCell X ⟨w.heap.size + 1, 0, none⟩ (.int .i64 0) D hDn).trans hK
    refine ⟨by simp, .inl ⟨_, _, rfl, run_takeDeferred hK', ?_⟩⟩
    have hA := aside_put hK' rfl (.deferred none)
    have c2 := hA.cell (cell_set_same X (w.heap.size + 1) 0 (.int .i64 0) _ c1)
    have hr2 := hrX.store (b := w.heap.size + 1) (i := 0) (.inr rfl) (by rw [flG_n]; exact fun x => by have := hMlow.out _ x; omega) (.int .i64 0)
    have hr3 := (hr2.aside hA (fun x => by rw [flG_n] at x; have := hMlow.out _ x; omega)).narrow (M := M) (fun k hk => .inl hk) (by rw [flG_n]; exact hr.sub)
    refine ⟨.int .i64 0, ?_, by rw [h0.out], hr3, (hT.off (by omega) _).put (by omega) _⟩
    simp [results, Tryz.f17, go_sem, c2]
  case stop =>
    rintro D c X hD ⟨rfl, hrX, h12, c1, hT⟩ hK
    gi_wp2
    refine ⟨by simp, .inl ⟨_, _, rfl, run_takeDeferred hK, ?_⟩⟩
    have hA := aside_put hK rfl (.deferred none)
    have c2 := hA.cell c1
    have hr3 := (hrX.aside hA (fun x => by rw [flG_n] at x; have := hMlow.out _ x; omega)).narrow (M := M) (fun k hk => .inl hk) (by rw [flG_n]; exact hr.sub)
    refine ⟨.int .i64 12, ?_, by rw [h12], hr3, hT.put (by omega) _⟩
    simp [results, Tryz.f17, go_sem, c2]

end Go.Proofs.YtacnhlmhibhlhaaGreat

/-
  Boxes: new blocks of one cell.
-/
namespace Go.Proofs.YtacnhlmhibhlhaaGreat
open Go.RowKit

theorem box_new (w : World) (v : Value) (t : TypeId) {p : Nat} (hp : w.heap.size = p) : (w.alloc (.cells #[v] t)).cell? ⟨p, 0, none⟩ = some v ∧ (w.alloc (.cells #[v] t)).frozen? ⟨p, 0, none⟩ = false := by
  subst hp
  exact ⟨by simp, by simp⟩
theorem cell_alloc_l {w : World} (o : Obj) {a : Addr} {v : Value} (h : w.cell? a = some v) : (w.alloc o).cell? a = some v :=
  (((Below.refl w.heap.size w).alloc (Nat.le_refl _) o).cell (p := a) (World.block_lt_of_cell? w _ h)).trans h
theorem frozen_alloc_l {w : World} (o : Obj) {a : Addr} {v : Value} (h : w.cell? a = some v) (hf : w.frozen? a = false) : (w.alloc o).frozen? a = false :=
  (((Below.refl w.heap.size w).alloc (Nat.le_refl _) o).frozen (p := a) (World.block_lt_of_cell? w _ h)).trans hf

end Go.Proofs.YtacnhlmhibhlhaaGreat

/-
  The bank's Everywhere, by contract.
-/
namespace Go.Proofs.YtacnhlmhibhlhaaGreat
open Go.RowKit Go.Maps
attribute [local go_sem] Oper.semAt_some

end Go.Proofs.YtacnhlmhibhlhaaGreat

/-
  The bank's Read, Write, SpareFailed, Geo, by contract.
-/
namespace Go.Proofs.YtacnhlmhibhlhaaGreat
open Go.RowKit Go.Maps
set_option linter.unusedVariables false

theorem Turn.undrw {N : Nat → Prop} {w w' : World} (h : Turn N w.drew w') : Turn N w w' := ⟨h.os, h.tape, h.output, h.size, h.block⟩
theorem Own.lower {w : World} {B C n : Nat} {v : Value} {zs : List Int} (h : Own w B v n zs) (hC : C ≤ B) : Own w C v n zs := by
  refine ⟨⟨h.row.1, ?_⟩, h.small⟩
  rcases h.row.2 with h1 | ⟨g, cap, cur, e, hb, r⟩
  · exact .inl h1
  · exact .inr ⟨g, cap, cur, e, Nat.le_trans hC hb, r⟩
def brV (B : Bn) (R : Rk) (i k : Int) : List Int := if hasSl B.d i then R.rdV (B.disk i) k else []
def brE (B : Bn) (R : Rk) (i k : Int) : Int := if hasSl B.d i then R.rdE (B.disk i) k else 11
section
variable {M : Nat → Prop} {L : Lay} {R : Rk} {w : World} {b : Nat} {B : Bn}
set_option maxHeartbeats 1000000 in
theorem bread_any (i k : Int) (hr : RackAt w M L R) (hb : BnAt w b L.p B) :
    Calls Tryz.prog 163 #[.pointer (some ⟨b, 0, none⟩), .int .i64 i, .int .i64 k] w (RetP w (brV B R i k) (brE B R i k)) := by
  unfold brV brE
  have c1 := hb.c1
  have c2 := hb.c2
  have c3 := hb.c3
  have HR := Lib.hid hr
  have HB := Lib.hid hb
  cases hs : hasSl B.d i with
  | false =>
    have h0 := hasSlot_any B.d B.r B.s i w
    rw [hs] at h0
    clear hr hb hs
    go_enter Tryz.func163, Tryz.ntmps163
    go_wp2_with (go_at_call 71; refine h0.mono ?_; rintro e w1 ⟨rfl, hb1⟩)
    go_ret2
    exact ⟨_, rfl, own_nil _ _, hb1⟩
  | true =>
    have h0 := hasSlot_any B.d B.r B.s i w
    rw [hs] at h0
    clear hr hb hs
    go_enter Tryz.func163, Tryz.ntmps163
    go_wp2_with (go_at_call 71; refine h0.mono ?_; rintro e w1 ⟨rfl, hb1⟩)
    have hbk1 := (HB.out.next hb1).drew
    have hrk1 := (HR.out.below hb1).drew
    have k0 := hbk1.c0
    refine wp_region_held_drew (S := fun w' => w'.cell? ⟨b, 0, none⟩ = some (.pointer (some ⟨L.p, 0, none⟩))) (by kernel_rfl) ?_ (fun hHeld => ?_)
    · exact k0
    refine rgY 0 ?_ rfl (by kernel_rfl) (fun _ _ _ h => h) (.inl ⟨by rfl, fun w hSw => ?_⟩) (by assumption) ?_
    rotate_left
    · (try dsimp only at hSw); go_simp; try with_reducible rfl
    simp only [Act.put, rg1, rg2, rg3, rg4, rg6]
    refine rgY 1 ?_ rfl (by kernel_rfl) (fun _ _ _ h => h) (.inl ⟨by rfl, fun w hSw => ?_⟩) (by assumption) ?_
    rotate_left
    · (try dsimp only at hSw); go_simp; try with_reducible rfl
    simp only [Act.put, rg1, rg2, rg3, rg4, rg5, rg6]
    refine rgY 2 ?_ rfl (by kernel_rfl) (fun _ _ _ h => h) (.inl ⟨by rfl, fun w hSw => ?_⟩) (by assumption) ?_
    rotate_left
    · (try dsimp only at hSw); go_simp; try with_reducible rfl
    simp only [Act.put, rg1, rg2, rg3, rg4, rg5, rg6]
    refine rgY 3 ?_ rfl (by kernel_rfl) (fun _ _ _ h => h) (.inl ⟨by rfl, fun w hSw => ?_⟩) (by assumption) ?_
    rotate_left
    · (try dsimp only at hSw); go_simp; try with_reducible rfl
    simp only [Act.put, rg1, rg2, rg3, rg4, rg5, rg6]
    refine rgY 4 ?_ rfl (by kernel_rfl) (fun _ _ _ h => h) (.inl ⟨by rfl, fun w hSw => ?_⟩) (by assumption) ?_
    rotate_left
    · (try dsimp only at hSw); go_simp; try with_reducible rfl
    simp only [Act.put, rg1, rg2, rg3, rg4, rg5, rg6]
    refine rgY 5 ?_ rfl (by kernel_rfl) (fun _ _ _ h => h) (.inl ⟨by rfl, fun w hSw => ?_⟩) (by assumption) ?_
    rotate_left
    · (try dsimp only at hSw); go_simp; try with_reducible rfl
    simp only [Act.put, rg1, rg2, rg3, rg4, rg5, rg6]
    refine rgY 7 ?_ rfl (by kernel_rfl) (fun _ _ _ h => h) (.inl ⟨by rfl, fun w hSw => ?_⟩) (by assumption) ?_
    rotate_left
    · (try dsimp only at hSw); go_simp; try with_reducible rfl
    simp only [Act.put, rg1, rg2, rg3, rg4, rg5, rg6]
    refine wpAnyH_ready (rs := [6]) (by kernel_rfl) (by simp) ?_
    refine AllReadyH.cons rfl (fun K hK => ?_) AllReadyH.nil
    simp only [List.getElem_toArray, List.getElem_cons_succ, List.getElem_cons_zero]
    go_simp
    refine (disk_any i hbk1).mono ?_
    rintro e w2 ⟨rfl, rfl⟩
    go_wp2_with (fail)
    refine hK.out _ _ k0 (fun hHeld => ?_)
    clear hK K
    refine wpAnyH_ready (rs := [8]) (by kernel_rfl) (by simp) ?_
    refine AllReadyH.cons rfl (fun K hK => ?_) AllReadyH.nil
    simp only [List.getElem_toArray, List.getElem_cons_succ, List.getElem_cons_zero]
    go_simp
    refine (readP_all (B.disk i) k hrk1).mono ?_
    rintro e w3 ⟨v, rfl, hown, hb3⟩
    go_wp2_with (fail)
    refine hK.out _ _ ((hb3.cell (p := ⟨b, 0, none⟩) hbk1.lt).trans k0) (fun hHeld => ?_)
    clear hK K
    refine rgY 9 ?_ rfl (by kernel_rfl) (fun _ _ _ h => h) (.inl ⟨by rfl, fun w hSw => ?_⟩) (by assumption) ?_
    rotate_left
    · (try dsimp only at hSw); go_simp; try with_reducible rfl
    simp only [Act.put, rg1, rg2, rg3, rg4, rg5, rg6]
    refine rgY 10 ?_ rfl (by kernel_rfl) (fun _ _ _ h => h) (.inl ⟨by rfl, fun w hSw => ?_⟩) (by assumption) ?_
    rotate_left
    · (try dsimp only at hSw); go_simp; try with_reducible rfl
    simp only [Act.put, rg1, rg2, rg3, rg4, rg5, rg6]
    refine rgY 11 ?_ rfl (by kernel_rfl) (fun _ _ _ h => h) (.inl ⟨by rfl, fun w hSw => ?_⟩) (by assumption) ?_
    rotate_left
    · (try dsimp only at hSw); go_simp; try with_reducible rfl
    simp only [Act.put, rg1, rg2, rg3, rg4, rg5, rg6]
    refine rgY 12 ?_ rfl (by kernel_rfl) (fun _ _ _ h => h) (.inl ⟨by rfl, fun w hSw => ?_⟩) (by assumption) ?_
    rotate_left
    · (try dsimp only at hSw); go_simp; try with_reducible rfl
    simp only [Act.put, rg1, rg2, rg3, rg4, rg5, rg6]
    refine wpAnyH_done (by kernel_rfl) ?_ _
    go_wp2_with (fail)
    go_ret2
    exact ⟨v, rfl, hown.lower hb1.size, hb1.trans ((undrew hb3).mono hb1.size)⟩
theorem geo_any (hb : BnAt w b L.p B) :
    Calls Tryz.prog 41 #[.pointer (some ⟨b, 0, none⟩)] w fun e w' => e = .returned (gv B.d B.r B.s) ∧ Below w.heap.size w w' := by
  have c1 := hb.c1
  have c2 := hb.c2
  have c3 := hb.c3
  have hlt := hb.lt
  go_enter Tryz.func41, Tryz.ntmps41
  go_wp2_with (fail)
  exact bodyPost_ret (v := gv B.d B.r B.s) (by simp [results, Tryz.results41, go_sem]) rfl ⟨rfl, (Below.refl _ _).alloc (Nat.le_refl _) _⟩
end

end Go.Proofs.YtacnhlmhibhlhaaGreat

/-
  The bank's Open and Join, by contract.
-/
namespace Go.Proofs.YtacnhlmhibhlhaaGreat
open Go.RowKit Go.Maps
set_option linter.unusedVariables false

instance (d r s : Int) : Decidable (Rt d r s) := decidable_of_iff ((3 ≤ d ∧ d ≤ 16) ∧ (1 ≤ r ∧ r ≤ 4) ∧ (12 ≤ s ∧ s ≤ 64) ∧ 8 ≤ QC s * PL d r)
  ⟨fun h => ⟨⟨h.1.1, h.1.2, h.2.1.1, h.2.1.2, h.2.2.1.1, h.2.2.1.2⟩, h.2.2.2⟩, fun h => ⟨⟨h.d1, h.d2⟩, ⟨h.r1, h.r2⟩, ⟨h.s1, h.s2⟩, h.q⟩⟩
/-- Is the rack one for this geometry? -/
noncomputable def rackOk (R : Rk) (d r s : Int) : Bool := ((R.n : Int) == d + 1) && ((R.S : Int) == sect d r s)

section
variable {M : Nat → Prop} {L : Lay} {R : Rk} {w : World}
set_option maxHeartbeats 1000000 in
theorem rackOf_any (d r s : Int) (h1 : 3 ≤ d) (h2 : d ≤ 16) (hr : RackAt w M L R) :
    Calls Tryz.prog 31 #[.pointer (some ⟨L.p, 0, none⟩), gv d r s] w fun e w' => e = .returned (.bool (rackOk R d r s)) ∧ Below w.heap.size w w' := by
  have hb : ∀ x : Obj, Below w.heap.size w (w.alloc x) := fun x => (Below.refl _ _).alloc (Nat.le_refl _) _
  have HB := Lib.hid hb
  have hS := fun o : Obj => size_rack M L R (w.alloc o) (hr.below (hb o))
  have HS := Lib.hid hS
  have HT : Hid (∀ w, Calls Tryz.prog 8 #[gv d r s] w fun e w' => e = .returned (.int .i64 (sect d r s)) ∧ Below w.heap.size w w') := fun w => sectors_all d r s w
  have ed : IntKind.i64.wrap (d + 1) = d + 1 := IntWalk.i64_in _ (by omega)
  clear hr hb hS
  unfold rackOk
  by_cases hn : (R.n : Int) = d + 1
  · have hz : ((R.n : Int) == d + 1) = true := by simpa using hn
    rw [hz, Bool.true_and]
    clear hn
    go_enter Tryz.func31, Tryz.ntmps31
    go_wp2_with (fail)
    refine (HS.out _).mono ?_
    rintro e w1 ⟨rfl, hb1⟩
    have hB1 := (HB.out _).trans (hb1.mono (HB.out (.cells #[.int .i64 d, .int .i64 r, .int .i64 s] 33)).size)
    have c0 := (hb1.cell (p := ⟨w.heap.size, 0, none⟩) (by simp)).trans (show _ = some (.int .i64 d) by simp)
    have c1 := (hb1.cell (p := ⟨w.heap.size, 1, none⟩) (by simp)).trans (show _ = some (.int .i64 r) by simp)
    have c2 := (hb1.cell (p := ⟨w.heap.size, 2, none⟩) (by simp)).trans (show _ = some (.int .i64 s) by simp)
    go_wp2_with (fail)
    refine (HT.out _).mono ?_
    rintro e w2 ⟨rfl, hb2⟩
    go_wp2_with (fail)
    go_ret
    exact ⟨rfl, hB1.trans (hb2.mono hB1.size)⟩
  · have hz : ((R.n : Int) == d + 1) = false := by simpa using hn
    rw [hz, Bool.false_and]
    clear hn
    go_enter Tryz.func31, Tryz.ntmps31
    go_wp2_with (fail)
    refine (HS.out _).mono ?_
    rintro e w1 ⟨rfl, hb1⟩
    have hB1 := (HB.out _).trans (hb1.mono (HB.out (.cells #[.int .i64 d, .int .i64 r, .int .i64 s] 33)).size)
    have c0 := (hb1.cell (p := ⟨w.heap.size, 0, none⟩) (by simp)).trans (show _ = some (.int .i64 d) by simp)
    go_wp2_with (fail)
    go_ret
    exact ⟨rfl, hB1⟩
/-- A geometry's box at p, a member's behind it. -/
structure Bx6 (w : World) (p : Nat) (d r s e sl st : Int) : Prop where
  lt : p + 1 < w.heap.size
  g0 : w.cell? ⟨p, 0, none⟩ = some (.int .i64 d)
  g1 : w.cell? ⟨p, 1, none⟩ = some (.int .i64 r)
  g2 : w.cell? ⟨p, 2, none⟩ = some (.int .i64 s)
  m0 : w.cell? ⟨p + 1, 0, none⟩ = some (.int .i64 e)
  m1 : w.cell? ⟨p + 1, 1, none⟩ = some (.int .i64 sl)
  m2 : w.cell? ⟨p + 1, 2, none⟩ = some (.int .i64 st)
theorem Bx6.new (w : World) (d r s e sl st : Int) (t u : TypeId) : Bx6 ((w.alloc (.cells #[.int .i64 d, .int .i64 r, .int .i64 s] t)).alloc (.cells #[.int .i64 e, .int .i64 sl, .int .i64 st] u)) w.heap.size d r s e sl st := by
  refine ⟨by simp, ?_, ?_, ?_, ?_, ?_, ?_⟩ <;> simp
theorem Bx6.next {w w' : World} {p : Nat} {d r s e sl st : Int} (h : Bx6 w p d r s e sl st) (hb : Below w.heap.size w w') : Bx6 w' p d r s e sl st := by
  have hl := h.lt
  have hp : p < w.heap.size := by omega
  exact ⟨Nat.lt_of_lt_of_le hl hb.size, (hb.cell (p := ⟨p, 0, none⟩) hp).trans h.g0, (hb.cell (p := ⟨p, 1, none⟩) hp).trans h.g1, (hb.cell (p := ⟨p, 2, none⟩) hp).trans h.g2, (hb.cell (p := ⟨p + 1, 0, none⟩) hl).trans h.m0, (hb.cell (p := ⟨p + 1, 1, none⟩) hl).trans h.m1, (hb.cell (p := ⟨p + 1, 2, none⟩) hl).trans h.m2⟩

/-- What Open asks. -/
noncomputable def openOk (R : Rk) (d r s sl st : Int) : Bool := decide (Rt d r s) && (rackOk R d r s && memOk d sl st)
/-- What Open answers. -/
noncomputable def OpenPost (p : Nat) (R : Rk) (d r s e sl st : Int) (w : World) (en : Ending) (w' : World) : Prop :=
  Below w.heap.size w w' ∧ if openOk R d r s sl st then ∃ b, en = .returned (.tuple #[.pointer (some ⟨b, 0, none⟩), .int .i64 0]) ∧ w.heap.size ≤ b ∧ BnAt w' b p ⟨d, r, s, e, sl, st⟩
    else en = .returned (.tuple #[.pointer none, .int .i64 10])
theorem OpenPost.no {p : Nat} {d r s e sl st : Int} {w' : World} (hb : Below w.heap.size w w') (h : openOk R d r s sl st = false) : OpenPost p R d r s e sl st w (.returned (.tuple #[.pointer none, .int .i64 10])) w' :=
  ⟨hb, by rw [h]; rfl⟩
theorem OpenPost.yes {p b : Nat} {d r s e sl st : Int} {w' : World} (hb : Below w.heap.size w w') (h : openOk R d r s sl st = true) (hlt : w.heap.size ≤ b) (hB : BnAt w' b p ⟨d, r, s, e, sl, st⟩) : OpenPost p R d r s e sl st w (.returned (.tuple #[.pointer (some ⟨b, 0, none⟩), .int .i64 0])) w' :=
  ⟨hb, by rw [h]; exact ⟨b, rfl, hlt, hB⟩⟩
set_option maxHeartbeats 2000000 in
theorem open_any (d r s e sl st : Int) (hr : RackAt w M L R) :
    Calls Tryz.prog 15 #[.pointer (some ⟨L.p, 0, none⟩), gv d r s, mb e sl st] w (OpenPost L.p R d r s e sl st w) := by
  have HR := Lib.hid hr
  have hb2 : Hid (∀ x y : Obj, Below w.heap.size w ((w.alloc x).alloc y)) := fun x y => ((Below.refl _ _).alloc (Nat.le_refl _) _).alloc (by simp) _
  clear hr
  by_cases hR : Rt d r s
  · have HOK : Hid (openOk R d r s sl st = (rackOk R d r s && memOk d sl st)) := by unfold Hid openOk; rw [decide_eq_true hR, Bool.true_and]
    have hg := hR.d1
    have hg2 := hR.d2
    have HG : Hid (∀ w, Calls Tryz.prog 28 #[gv d r s] w fun e w' => e = .returned (.bool true) ∧ Below w.heap.size w w') := fun w => right_yes d r s w hR
    clear hR
    go_enter Tryz.func15, Tryz.ntmps15
    go_wp2_with (fail)
    refine (HG.out _).mono ?_
    rintro e1 w1 ⟨rfl, hb1⟩
    have hx1 := (Bx6.new w d r s e sl st 33 23).next hb1
    have hB1 := (hb2.out (.cells #[.int .i64 d, .int .i64 r, .int .i64 s] 33) (.cells #[.int .i64 e, .int .i64 sl, .int .i64 st] 23)).trans (hb1.mono (hb2.out _ _).size)
    obtain ⟨p, hp⟩ : ∃ p, p = w.heap.size := ⟨_, rfl⟩
    rw [← hp] at hx1
    have HP := Lib.hid hp
    have hro := rackOf_any (w := w1) d r s hg hg2 (HR.out.below hB1)
    have HM : Hid (∀ w, Calls Tryz.prog 32 #[mb e sl st, gv d r s] w fun e w' => e = .returned (.bool (memOk d sl st)) ∧ Below w.heap.size w w') := fun w => memberOf_any d r s e sl st w
    have HRO := Lib.hid hro
    have HX1 := Lib.hid hx1
    have g0 := hx1.g0
    have g1 := hx1.g1
    have g2 := hx1.g2
    have HB1 := Lib.hid hB1
    clear hro hx1 hB1 hb1 hg hg2
    cases hrk : rackOk R d r s with
    | false =>
      rw [hrk] at HRO HOK
      clear hrk
      rw [← hp]
      clear hp
      go_wp2_with (fail)
      refine HRO.out.mono ?_
      rintro e2 w2 ⟨rfl, hb22⟩
      go_wp2_with (fail)
      go_ret2
      exact OpenPost.no (HB1.out.trans (hb22.mono HB1.out.size)) (HOK.out.trans (Bool.false_and _))
    | true =>
      rw [hrk] at HRO HOK
      clear hrk
      rw [← hp]
      clear hp
      go_wp2_with (fail)
      refine HRO.out.mono ?_
      rintro e2 w2 ⟨rfl, hb22⟩
      have HB2 := Lib.hid (HB1.out.trans (hb22.mono HB1.out.size))
      have hx2 := HX1.out.next hb22
      have HX2 := Lib.hid hx2
      clear g0 g1 g2
      have g0 := hx2.g0
      have g1 := hx2.g1
      have g2 := hx2.g2
      have m0 := hx2.m0
      have m1 := hx2.m1
      have m2 := hx2.m2
      clear hx2 HX1 hb22
      cases hm : memOk d sl st with
      | false =>
        rw [hm] at HM HOK
        clear hm
        go_wp2_with (fail)
        refine (HM.out _).mono ?_
        rintro e3 w3 ⟨rfl, hb33⟩
        go_wp2_with (fail)
        go_ret2
        exact OpenPost.no (HB2.out.trans (hb33.mono HB2.out.size)) (HOK.out.trans rfl)
      | true =>
        rw [hm] at HM HOK
        clear hm
        go_wp2_with (fail)
        refine (HM.out _).mono ?_
        rintro e3 w3 ⟨rfl, hb33⟩
        have HB3 := Lib.hid (HB2.out.trans (hb33.mono HB2.out.size))
        have hx3 := HX2.out.next hb33
        clear g0 g1 g2 m0 m1 m2
        have g0 := hx3.g0
        have g1 := hx3.g1
        have g2 := hx3.g2
        have m0 := hx3.m0
        have m1 := hx3.m1
        have m2 := hx3.m2
        clear hx3 HX2 hb33
        go_wp2_with (fail)
        go_ret2
        exact OpenPost.yes (HB3.out.alloc HB3.out.size _) (HOK.out.trans rfl) HB3.out.size ⟨heap_alloc_new w3 _⟩
  · have HOK : Hid (openOk R d r s sl st = false) := by unfold Hid openOk; rw [decide_eq_false hR, Bool.false_and]
    have HG : Hid (∀ w, Calls Tryz.prog 28 #[gv d r s] w fun e w' => e = .returned (.bool false) ∧ Below w.heap.size w w') := fun w => right_no d r s w hR
    clear hR
    go_enter Tryz.func15, Tryz.ntmps15
    go_wp2_with (fail)
    refine (HG.out _).mono ?_
    rintro e1 w1 ⟨rfl, hb1⟩
    go_wp2_with (fail)
    go_ret2
    exact OpenPost.no ((hb2.out _ _).trans (hb1.mono (hb2.out (.cells #[.int .i64 d, .int .i64 r, .int .i64 s] 33) (.cells #[.int .i64 e, .int .i64 sl, .int .i64 st] 23)).size)) HOK.out
end

end Go.Proofs.YtacnhlmhibhlhaaGreat

/-
  The bank's Bad, by contract.
-/
namespace Go.Proofs.YtacnhlmhibhlhaaGreat
open Go.RowKit Go.Maps
set_option linter.unusedVariables false

/-- Is slot i bad? -/
def badP (B : Bn) (R : Rk) (i : Int) : Bool := decide (B.st = 1 ∧ i = B.sl) || R.failed (B.disk i)
/-- The bad ones of the first i slots. -/
def badL (B : Bn) (R : Rk) : Nat → List Int
  | 0 => []
  | i + 1 => if badP B R (i : Int) then badL B R i ++ [(i : Int)] else badL B R i
theorem badL_len (B : Bn) (R : Rk) (i : Nat) : (badL B R i).length ≤ i := by
  induction i with
  | zero => exact Nat.le_refl _
  | succ i ih =>
    unfold badL
    split
    · simp; omega
    · omega

set_option maxHeartbeats 2000000 in
theorem bad_any (M : Nat → Prop) (L : Lay) (R : Rk) (w : World) (b n : Nat) (B : Bn) (hr : RackAt w M L R) (hb : BnAt w b L.p B) (hd : B.d = (n : Int)) (hn : n ≤ 16) :
    Calls Tryz.prog 101 #[.pointer (some ⟨b, 0, none⟩)] w (RetI w (badL B R n)) := by
  have HR := Lib.hid hr
  have HB := Lib.hid hb
  have c1 := hb.c1
  rw [hd] at c1
  clear hr hb hd
  go_enter Tryz.func101, Tryz.ntmps101
  go_wp2_with (fail)
  go_loopw [3, 4, 10] (fun u _ v wr => ∃ i : Nat, i ≤ n ∧ v = .int .i64 i ∧ OwnI wr w.heap.size u (badL B R i).length (badL B R i) ∧ Below w.heap.size w wr) (fun _ _ v _ => n - (RowKit.intOf v).toNat)
  case atStart => exact ⟨0, Nat.zero_le _, rfl, ownI_nil _ _, Below.refl _ _⟩
  case round =>
    obtain ⟨i, hi, rfl, ho, hbl⟩ := hrel
    clear c1
    by_cases hlt : i < n
    · have hbk := HB.out.next hbl
      have hrk := HR.out.below hbl
      have c0 := hbk.c0
      have HJ : Hid (∀ q, Calls Tryz.prog 135 #[.pointer (some ⟨b, 0, none⟩), .int .i64 i] (wr.drewN q) fun e w' => e = .returned (.bool (decide (B.st = 1 ∧ (i : Int) = B.sl))) ∧ w' = wr.drewN q) := fun q => joining_any (i : Int) (hbk.drewN q)
      have HD : Hid (∀ q, Calls Tryz.prog 72 #[.pointer (some ⟨b, 0, none⟩), .int .i64 i] (wr.drewN q) fun e w' => e = .returned (.int .i64 (B.disk (i : Int))) ∧ w' = wr.drewN q) := fun q => disk_any (i : Int) (hbk.drewN q)
      have HF : Hid (∀ q, Calls Tryz.prog 136 #[.pointer (some ⟨L.p, 0, none⟩), .int .i64 (B.disk (i : Int))] (wr.drewN q) fun e w' => e = .returned (.bool (R.failed (B.disk (i : Int)))) ∧ w' = wr.drewN q) := fun q => (failed_rack M L R (wr.drewN q) (B.disk (i : Int)) (hrk.below (below_drewN (Below.refl _ _) q))).mono fun e w' h => ⟨h.1, h.2.symm⟩
      obtain ⟨ra, rc, rfl, hins, hnc, hcm, hrb⟩ := ho.ins
      have HO := Lib.hid ho
      have HBL := Lib.hid hbl
      have hll := badL_len B R i
      have hJ : Hid (badP B R (i : Int) = (decide (B.st = 1 ∧ (i : Int) = B.sl) || R.failed (B.disk (i : Int)))) := Lib.hid rfl
      have HLL : Hid ((badL B R i).length + 1 ≤ 1000000000000) := by unfold Hid; omega
      have hsz := hbl.size
      clear ho hbl hins hnc hcm hrb hll hbk hrk
      by_cases hj : B.st = 1 ∧ (i : Int) = B.sl
      · have HS : Hid (badL B R (i + 1) = badL B R i ++ [(i : Int)]) := by
          show (if _ then _ else _) = _
          rw [if_pos (by rw [hJ.out, decide_eq_true hj]; rfl)]
        rw [decide_eq_true hj] at HJ
        clear hj hJ HD HF
        go_wp2_with (fail)
        go_quiet ((go_at_call 135; exact Calls.quiet_of_same (HJ.out _)))
        obtain ⟨W1, hW1⟩ : ∃ W1, W1 = wr.drewN nq := ⟨_, rfl⟩
        have HO1 : Hid (OwnI (W1.alloc (.cells #[.int .i64 (i : Int)] 3)) w.heap.size (.slice ra (badL B R i).length rc) (badL B R i).length (badL B R i)) := by rw [hW1]; exact (HO.out.next (below_drewN (Below.refl _ _) nq)).alloc _
        have HB1 : Hid (Below w.heap.size w (W1.alloc (.cells #[.int .i64 (i : Int)] 3))) := by rw [hW1]; exact (below_drewN HBL.out nq).alloc (by simpa using hsz) _
        have hsz1 : w.heap.size ≤ W1.heap.size := by rw [hW1]; simpa using hsz
        rw [← hW1]
        clear hW1
        go_wp2_with (at_builtin; go_must (refine wpList_apz rfl (.tmp 26) (.tmp 28) rfl w.heap.size _ (badL B R i).length (badL B R i) rfl HO1.out W1.heap.size (i : Int) rfl (by simp) HLL.out (by simp; omega) w HB1.out ?_); intro v2 w2 ho2 hb2)
        go_roundw
        case rel => exact ⟨i + 1, by omega, by go_num, by rw [HS.out, List.length_append, List.length_singleton]; exact ho2, hb2⟩
        case measure => simp [RowKit.intOf]; omega
      · rw [decide_eq_false hj] at HJ
        cases hf : R.failed (B.disk (i : Int)) with
        | true =>
          have HS : Hid (badL B R (i + 1) = badL B R i ++ [(i : Int)]) := by
            show (if _ then _ else _) = _
            rw [if_pos (by rw [hJ.out, hf, Bool.or_true])]
          rw [hf] at HF
          clear hj hJ hf
          go_wp2_with (fail)
          go_quiet (first | (go_at_call 135; exact Calls.quiet_of_same (HJ.out _)) | (go_at_call 72; exact Calls.quiet_of_same (HD.out _)) | (go_at_call 136; exact Calls.quiet_of_same (HF.out _)))
          obtain ⟨W1, hW1⟩ : ∃ W1, W1 = wr.drewN nq := ⟨_, rfl⟩
          have HO1 : Hid (OwnI (W1.alloc (.cells #[.int .i64 (i : Int)] 3)) w.heap.size (.slice ra (badL B R i).length rc) (badL B R i).length (badL B R i)) := by rw [hW1]; exact (HO.out.next (below_drewN (Below.refl _ _) nq)).alloc _
          have HB1 : Hid (Below w.heap.size w (W1.alloc (.cells #[.int .i64 (i : Int)] 3))) := by rw [hW1]; exact (below_drewN HBL.out nq).alloc (by simpa using hsz) _
          have hsz1 : w.heap.size ≤ W1.heap.size := by rw [hW1]; simpa using hsz
          rw [← hW1]
          clear hW1
          go_wp2_with (at_builtin; go_must (refine wpList_apz rfl (.tmp 26) (.tmp 28) rfl w.heap.size _ (badL B R i).length (badL B R i) rfl HO1.out W1.heap.size (i : Int) rfl (by simp) HLL.out (by simp; omega) w HB1.out ?_); intro v2 w2 ho2 hb2)
          go_roundw
          case rel => exact ⟨i + 1, by omega, by go_num, by rw [HS.out, List.length_append, List.length_singleton]; exact ho2, hb2⟩
          case measure => simp [RowKit.intOf]; omega
        | false =>
          have HS : Hid (badL B R (i + 1) = badL B R i) := by
            show (if _ then _ else _) = _
            rw [if_neg (by rw [hJ.out, hf, decide_eq_false hj]; simp)]
          rw [hf] at HF
          clear hj hJ hf
          go_wp2_with (fail)
          go_quiet (first | (go_at_call 135; exact Calls.quiet_of_same (HJ.out _)) | (go_at_call 72; exact Calls.quiet_of_same (HD.out _)) | (go_at_call 136; exact Calls.quiet_of_same (HF.out _)))
          go_wp2_with (fail)
          go_roundw
          case rel => exact ⟨i + 1, by omega, by go_num, by rw [HS.out]; exact HO.out.next (below_drewN (Below.refl _ _) nq), below_drewN HBL.out nq⟩
          case measure => simp [RowKit.intOf]; omega
    · obtain rfl : i = n := by omega
      have HO := Lib.hid ho
      have HBL := Lib.hid hbl
      clear ho hbl
      go_wp2_with (fail)
      go_ret
      exact ⟨_, rfl, HO.out, HBL.out⟩

end Go.Proofs.YtacnhlmhibhlhaaGreat
