import Derived.Test.YtinholnidchblaaGreatDoorQat
import Derived.Test.YtinholnidchblaaGreatDoorQau
import Derived.Test.YtinholnidchblaaGreatDoorQaj
import Derived.Deep.RegionHeld
set_option linter.unusedVariables false
set_option linter.unusedSimpArgs false
set_option maxRecDepth 100000
set_option maxHeartbeats 16000000
namespace Go.Proofs.YtinholnidchblaaGreatDoor
open Go.RowKit
theorem new_opc (w : World) (o i m : Int) (p q : ByteArray) (da : Option Addr) (dn dc : Nat) : ∃ wS b, wS = w.alloc (.cells #[.int .i64 o, .string p, .string q, .int .i64 i, .int .i64 m, .slice da dn dc] 31 (0, 0)) ∧ b = w.heap.size ∧ OpC wS b o i m p q da dn dc ∧ Below w.heap.size w wS :=
 ⟨_, _, rfl, rfl, heap_alloc_new w _, (Below.refl _ _).alloc (Nat.le_refl _) _⟩
section
variable {w : World} {L : List Nd} {a : Option Addr} {c y : Nat} {r s : Rv} {da : Option Addr} {dn dc : Nat} {na : Option Addr} {nn nc : Nat} {Ls : List (List UInt8)} {ea : Option Addr} {en ec : Nat} {ma : Option Addr} {mn mc : Nat} {Ms : List (List UInt8)}
end
theorem lp_bad {L : List Nd} (h : Rgt L) {o : Int} {p q : ByteArray} {i n : Int} {z : List Int} {D : List Nd × Rv} (hD : D = doO L o (nms p) (nms q) i n z) (e : D.2.err ≠ 0) : D.1 = L ∧ D.2 = .bad D.2.err := by
 subst hD
 exact do_bad h (nms_ok p) (nms_ok q) e
def NoR (x : List Nd × Rv) : Prop := x.2.d = [] ∧ x.2.ns = []
theorem NoR.any (L : List Nd) (e k l z : Int) : NoR (L, ⟨e, [], [], k, l, z⟩) := ⟨rfl, rfl⟩
theorem new_none (L : List Nd) (b : Bool) (P : Option (List ByteArray)) : NoR (oNew L b P) := by
 unfold oNew
 repeat' split
 all_goals exact NoR.any _ _ _ _ _
theorem link_none (L : List Nd) (P Q : Option (List ByteArray)) : NoR (oLink L P Q) := by
 unfold oLink
 repeat' split
 all_goals exact NoR.any _ _ _ _ _
theorem cut_none (L : List Nd) (b : Bool) (P : Option (List ByteArray)) : NoR (oCut L b P) := by
 unfold oCut
 repeat' split
 all_goals exact NoR.any _ _ _ _ _
theorem ren_none (L : List Nd) (P Q : Option (List ByteArray)) : NoR (oRen L P Q) := by
 unfold oRen
 repeat' split
 all_goals exact NoR.any _ _ _ _ _
theorem write_none (L : List Nd) (P : Option (List ByteArray)) (i : Int) (z : List Int) : NoR (oWrite L P i z) := by
 unfold oWrite
 repeat' split
 all_goals exact NoR.any _ _ _ _ _
theorem trunc_none (L : List Nd) (P : Option (List ByteArray)) (n : Int) : NoR (oTrunc L P n) := by
 unfold oTrunc
 repeat' split
 all_goals exact NoR.any _ _ _ _ _
theorem any_none (L : List Nd) {o : Int} (h7 : o ≠ 7) (h8 : ¬ (o = 10 ∨ o = 11 ∨ o = 13)) (P Q : Option (List ByteArray)) (i n : Int) (z : List Int) : NoR (oAny L o P Q i n z) := by
 unfold oAny
 repeat' split
 all_goals first
  | exact new_none _ _ _
  | exact link_none _ _ _
  | exact cut_none _ _ _
  | exact ren_none _ _ _
  | exact write_none _ _ _ _
  | exact trunc_none _ _ _
  | exact NoR.any _ _ _ _ _
  | exact absurd (by assumption) h7
  | exact absurd (by assumption) h8
theorem len_sub (b : List Int) (i n : Nat) : ((b.drop i).take n).length ≤ b.length := by
 rw [List.length_take, List.length_drop]; omega
def SmR (x : List Nd × Rv) : Prop := x.2.d.length ≤ 46368 ∧ x.2.ns.length ≤ 64
theorem SmR.none (L : List Nd) (e k l z : Int) : SmR (L, ⟨e, [], [], k, l, z⟩) := ⟨Nat.zero_le _, Nat.zero_le _⟩
theorem lp_small {L : List Nd} (h : Rgt L) {o : Int} {p q : ByteArray} {i n : Int} {z : List Int} {D : List Nd × Rv} (hD : D = doO L o (nms p) (nms q) i n z) : D.2.d.length ≤ 46368 ∧ D.2.ns.length ≤ 64 := by
 have hd : ∀ k, (nat L k).d.length ≤ 46368 := fun k => by
  by_cases hk : k < L.length
  ·rcases h.snd.node k hk with h7 | h7
   ·exact h7.2.2
   ·rw [h7.2.1]; decide
  ·rw [nat_out (by omega)]; decide
 have he : ∀ k, (nat L k).e.length ≤ 64 := fun k => by
  by_cases hk : k < L.length
  ·rcases h.snd.node k hk with h7 | h7
   ·rw [h7.2.1]; decide
   ·exact h7.2.2.1
  ·rw [nat_out (by omega)]; decide
 by_cases h0 : D.2.err = 0
 ·have key : SmR (oAny L o (nms p) (nms q) i n z) := by
   by_cases h7 : o = 7
   ·subst h7
    show SmR (oRead L (nms p) i n)
    unfold oRead
    split
    ·exact SmR.none _ _ _ _ _
    ·split
     ·exact SmR.none _ _ _ _ _
     ·exact ⟨Nat.le_trans (len_sub _ _ _) (hd _), Nat.zero_le _⟩
   by_cases h8 : o = 10 ∨ o = 11 ∨ o = 13
   ·have e : oAny L o (nms p) (nms q) i n z = (L, oAsk L o (nms p)) := by rcases h8 with rfl | rfl | rfl <;> rfl
    rw [e]; unfold oAsk
    split
    ·exact SmR.none _ _ _ _ _
    ·split
     ·exact SmR.none _ _ _ _ _
     ·split
      ·exact SmR.none _ _ _ _ _
      ·split
       ·split
        ·exact ⟨Nat.zero_le _, by show ((nat L _).e.map _).length ≤ 64; rw [List.length_map]; exact he _⟩
        ·exact SmR.none _ _ _ _ _
       ·exact SmR.none _ _ _ _ _
   ·have hk := any_none L h7 h8 (nms p) (nms q) i n z
    exact ⟨by rw [hk.1]; exact Nat.zero_le _, by rw [hk.2]; exact Nat.zero_le _⟩
  rw [hD]
  exact key
 ·rw [(lp_bad h hD h0).2]
  exact ⟨Nat.zero_le _, Nat.zero_le _⟩
theorem lp_wide {w : World} {L : List Nd} (h : Rgt L) {o : Int} {p q : ByteArray} {i n : Int} {z : List Int} {D : List Nd × Rv} (hD : D = doO L o (nms p) (nms q) i n z) {da na : Option Addr} {dn dc nn nc : Nat} {Ls : List (List UInt8)} (hr : ResS w D.2 da dn dc na nn nc Ls) : dn ≤ 1000000000 ∧ nn ≤ 1000000000 := by
 obtain ⟨h1, h2⟩ := lp_small h hD
 have h3 := hr.data.len
 have h4 := hr.names.len
 have h5 := congrArg List.length hr.nam
 rw [List.length_map] at h5
 omega
def RefR (w : World) (r : List Nd × Rv) (e : Ending) (w' : World) : Prop := ∃ a c n g da dn dc na nn nc Ls, e = .returned (.tuple #[.agg #[.slice a n c], .agg #[.int .i64 r.2.err, .slice da dn dc, .slice na nn nc, .int .i64 r.2.k, .int .i64 r.2.l, .int .i64 r.2.sz]]) ∧ Nds w' a n g ∧ ndL g n = r.1 ∧ ResS w' r.2 da dn dc na nn nc Ls ∧ Below w.heap.size w w'
theorem resS_num (w : World) (e k l z : Int) : ResS w ⟨e, [], [], k, l, z⟩ none 0 0 none 0 0 [] := ⟨Pin.zero _, sts_nil _ _, rfl, fun _ => ⟨rfl, rfl⟩, Nat.le_refl _⟩
structure OpI (w0 : World) (x : Nat) (na : Option Addr) (n c : Nat) (o i m : Int) (p q : ByteArray) (da : Option Addr) (dn dc : Nat) (wr : World) : Prop where
 at0 : x = w0.heap.size
 bel : Below w0.heap.size w0 wr
 box : TrB wr x (.slice na n c)
 op : OpC wr (x + 1) o i m p q da dn dc
 res : TrB wr (x + 2) (.slice none 0 0)
 ans : RsB wr (x + 3) ResZ
section
variable {w0 wr w' : World} {x n c : Nat} {na : Option Addr} {o i m : Int} {p q : ByteArray} {da : Option Addr} {dn dc : Nat}
theorem OpI.all (h : OpI w0 x na n c o i m p q da dn dc wr) : wr.cell? ⟨x + 2, 0, none⟩ = some (.slice none 0 0) ∧ wr.frozen? ⟨x + 2, 0, none⟩ = false ∧ x + 2 < wr.heap.size ∧
  (wr.cell? ⟨x + 3, 0, none⟩ = some (.int .i64 0) ∧ wr.cell? ⟨x + 3, 1, none⟩ = some (.slice none 0 0) ∧ wr.cell? ⟨x + 3, 2, none⟩ = some (.slice none 0 0) ∧ wr.cell? ⟨x + 3, 3, none⟩ = some (.int .i64 0) ∧ wr.cell? ⟨x + 3, 4, none⟩ = some (.int .i64 0) ∧ wr.cell? ⟨x + 3, 5, none⟩ = some (.int .i64 0)) ∧
  wr.frozen? ⟨x + 3, 0, none⟩ = false ∧ wr.frozen? ⟨x + 3, 1, none⟩ = false ∧ wr.frozen? ⟨x + 3, 2, none⟩ = false ∧ wr.frozen? ⟨x + 3, 3, none⟩ = false ∧ wr.frozen? ⟨x + 3, 4, none⟩ = false ∧ wr.frozen? ⟨x + 3, 5, none⟩ = false ∧ x + 3 < wr.heap.size :=
 ⟨h.res.cell, h.res.free 0, lt_of_block h.res, RsB.cells h.ans, h.ans.free 0, h.ans.free 1, h.ans.free 2, h.ans.free 3, h.ans.free 4, h.ans.free 5, lt_of_block h.ans⟩
theorem OpI.next (h : OpI w0 x na n c o i m p q da dn dc wr) (hb : Below wr.heap.size wr w') : OpI w0 x na n c o i m p q da dn dc w' :=
 ⟨h.at0, h.bel.trans (hb.mono h.bel.size), (hb.block _ (lt_of_block h.box)).trans h.box, (hb.block _ (lt_of_block h.op)).trans h.op, (hb.block _ (lt_of_block h.res)).trans h.res, (hb.block _ (lt_of_block h.ans)).trans h.ans⟩
theorem op_start (w : World) (na : Option Addr) (n c : Nat) (o i m : Int) (p q : ByteArray) (da : Option Addr) (dn dc : Nat) : ∃ w4, w4 = (((w.alloc (.cells #[.slice na n c] 26 (0, 0))).alloc (.cells #[.int .i64 o, .string p, .string q, .int .i64 i, .int .i64 m, .slice da dn dc] 31 (0, 0))).alloc (.cells #[.slice none 0 0] 26 (0, 0))).alloc (.cells ResZ 37 (0, 0)) ∧ OpI w w.heap.size na n c o i m p q da dn dc w4 := by
 obtain ⟨w1, h1⟩ : ∃ w1, w1 = w.alloc (.cells #[.slice na n c] 26 (0, 0)) := ⟨_, rfl⟩
 obtain ⟨w2, h2⟩ : ∃ w2, w2 = w1.alloc (.cells #[.int .i64 o, .string p, .string q, .int .i64 i, .int .i64 m, .slice da dn dc] 31 (0, 0)) := ⟨_, rfl⟩
 obtain ⟨w3, h3⟩ : ∃ w3, w3 = w2.alloc (.cells #[.slice none 0 0] 26 (0, 0)) := ⟨_, rfl⟩
 obtain ⟨w4, h4⟩ : ∃ w4, w4 = w3.alloc (.cells ResZ 37 (0, 0)) := ⟨_, rfl⟩
 have s1 : w1.heap.size = w.heap.size + 1 := by rw [h1]; simp
 have s2 : w2.heap.size = w.heap.size + 2 := by rw [h2]; simp [s1]
 have s3 : w3.heap.size = w.heap.size + 3 := by rw [h3]; simp [s2]
 have b1 : Below w.heap.size w w1 := by rw [h1]; exact (Below.refl _ _).alloc (Nat.le_refl _) _
 have b2 : Below w1.heap.size w1 w2 := by rw [h2]; exact (Below.refl _ _).alloc (Nat.le_refl _) _
 have b3 : Below w2.heap.size w2 w3 := by rw [h3]; exact (Below.refl _ _).alloc (Nat.le_refl _) _
 have b4 : Below w3.heap.size w3 w4 := by rw [h4]; exact (Below.refl _ _).alloc (Nat.le_refl _) _
 have t1 : TrB w1 w.heap.size (.slice na n c) := by rw [h1]; exact heap_alloc_new w _
 have t2 : OpC w2 (w.heap.size + 1) o i m p q da dn dc := by rw [h2, ← s1]; exact heap_alloc_new w1 _
 have t3 : TrB w3 (w.heap.size + 2) (.slice none 0 0) := by rw [h3, ← s2]; exact heap_alloc_new w2 _
 have t4 : RsB w4 (w.heap.size + 3) ResZ := by rw [h4, ← s3]; exact heap_alloc_new w3 _
 have c1 : TrB w2 w.heap.size (.slice na n c) := (b2.block _ (lt_of_block t1)).trans t1
 have c2 : TrB w3 w.heap.size (.slice na n c) := (b3.block _ (lt_of_block c1)).trans c1
 have d2 : OpC w3 (w.heap.size + 1) o i m p q da dn dc := (b3.block _ (lt_of_block t2)).trans t2
 exact ⟨w4, by rw [h4, h3, h2, h1], rfl, b1.trans ((b2.mono b1.size).trans ((b3.mono (by omega)).trans (b4.mono (by omega)))), (b4.block _ (lt_of_block c2)).trans c2, (b4.block _ (lt_of_block d2)).trans d2, (b4.block _ (lt_of_block t3)).trans t3, t4⟩
end
def six (w : World) (b : Nat) (v0 v1 v2 v3 v4 v5 : Value) : World := (((((w.setCell ⟨b, 0, none⟩ v0).setCell ⟨b, 1, none⟩ v1).setCell ⟨b, 2, none⟩ v2).setCell ⟨b, 3, none⟩ v3).setCell ⟨b, 4, none⟩ v4).setCell ⟨b, 5, none⟩ v5
section
variable {w0 w : World} {x n c : Nat} {na : Option Addr} {o i m : Int} {p q : ByteArray} {da : Option Addr} {dn dc : Nat} {a : Option Addr} {k cc : Nat} {g : Nat → Nc} {r : Rv} {ea : Option Addr} {en ec : Nat} {ma : Option Addr} {mn mc : Nat} {Ls : List (List UInt8)}
structure FinP (w0 : World) (x : Nat) (a : Option Addr) (k cc : Nat) (g : Nat → Nc) (r : Rv) (ea : Option Addr) (en ec : Nat) (ma : Option Addr) (mn mc : Nat) (Ls : List (List UInt8)) (w : World) : Prop where
 tre : TrB w (x + 2) (.slice a k cc)
 ans : RsB w (x + 3) #[.int .i64 r.err, .slice ea en ec, .slice ma mn mc, .int .i64 r.k, .int .i64 r.l, .int .i64 r.sz]
 nds : Nds w a k g
 res : ResS w r ea en ec ma mn mc Ls
 bel : Below w0.heap.size w0 w
theorem OpI.fin (h : OpI w0 x na n c o i m p q da dn dc w) (hN : Nds w a k g) (hR : ResS w r ea en ec ma mn mc Ls) :
  FinP w0 x a k cc g r ea en ec ma mn mc Ls (six (w.setCell ⟨x + 2, 0, none⟩ (.slice a k cc)) (x + 3) (.int .i64 r.err) (.slice ea en ec) (.slice ma mn mc) (.int .i64 r.k) (.int .i64 r.l) (.int .i64 r.sz)) := by
 have hT : Turn (· = x + 2) w (w.setCell ⟨x + 2, 0, none⟩ (.slice a k cc)) := turn_set w (x + 2) 0 _
 have t1 : TrB (w.setCell ⟨x + 2, 0, none⟩ (.slice a k cc)) (x + 2) (.slice a k cc) := TrB.set h.res _
 have a1 : RsB (w.setCell ⟨x + 2, 0, none⟩ (.slice a k cc)) (x + 3) ResZ := (hT.block _ (lt_of_block h.ans) (by omega)).trans h.ans
 have n1 := hN.turnT h.res hT
 have r1 := hR.turnK h.res.odd hT
 have hT2 := turn_set6 (w.setCell ⟨x + 2, 0, none⟩ (.slice a k cc)) (x + 3) (.int .i64 r.err) (.slice ea en ec) (.slice ma mn mc) (.int .i64 r.k) (.int .i64 r.l) (.int .i64 r.sz)
 have h0 := h.at0
 have hb : Below w0.heap.size w0 (w.setCell ⟨x + 2, 0, none⟩ (.slice a k cc)) := h.bel.trans (hT.below h.bel.size fun k e => by omega)
 exact ⟨(hT2.block _ (lt_of_block t1) (by omega)).trans t1, RsB.set a1 _ _ _ _ _ _, n1.turnR a1 hT2, r1.turnK a1.oddZ hT2, hb.trans (hT2.below hb.size fun k e => by omega)⟩
theorem FinP.ret {fn : Func} {t u : Tmp} {act : Act} {R : Ending → World → Prop} (h : FinP w0 x a k cc g r ea en ec ma mn mc Ls w) (hr : fn.results = #[.cell t 26, .cell u 37]) (hp : act.tmps.getD t undef = .pointer (some ⟨x + 2, 0, none⟩)) (hq : act.tmps.getD u undef = .pointer (some ⟨x + 3, 0, none⟩)) (hd : act.defers = [])
  (hR : R (.returned (.tuple #[.agg #[.slice a k cc], .agg #[.int .i64 r.err, .slice ea en ec, .slice ma mn mc, .int .i64 r.k, .int .i64 r.l, .int .i64 r.sz]])) w) : bodyPost Tryz.prog fn R .ret act w :=
 bodyPost_ret (res_cell2 hr _ _ ⟨x + 2, 0, none⟩ ⟨x + 3, 0, none⟩ _ _ hp hq (TrB.load h.tre) (RsB.load h.ans)) hd hR
theorem FinP.refR (h : FinP w0 x a k cc g r ea en ec ma mn mc Ls w) {L : List Nd} (hL : ndL g k = L) : RefR w0 (L, r) (.returned (.tuple #[.agg #[.slice a k cc], .agg #[.int .i64 r.err, .slice ea en ec, .slice ma mn mc, .int .i64 r.k, .int .i64 r.l, .int .i64 r.sz]])) w :=
 ⟨a, cc, k, g, ea, en, ec, ma, mn, mc, Ls, rfl, h.nds, hL, h.res, h.bel⟩
end
theorem rwrong_any (w : World) (e : Int) : Calls Tryz.prog 41 #[.int .i64 e] w fun en w' => en = .returned (.agg #[.int .i64 e, .slice none 0 0, .slice none 0 0, .int .i64 0, .int .i64 0, .int .i64 0]) ∧ Below w.heap.size w w' := by
 go_enter Tryz.func41, Tryz.ntmps41
 go_wp2_with fail
 refine bodyPost_ret (res_cell rfl _ _ ⟨w.heap.size, 0, none⟩ _ rfl (RsB.load (heap_alloc_new w _))) rfl ?_
 exact ⟨rfl, (Below.refl _ _).alloc (Nat.le_refl _) _⟩
theorem TrB.off {w : World} {x b j : Nat} {v u : Value} (h : TrB w x v) (hne : x ≠ b) : TrB (w.setCell ⟨b, j, none⟩ u) x v := ((turn_set w b j u).block x (lt_of_block h) hne).trans h
theorem TrB.off6 {w : World} {x b : Nat} {v v0 v1 v2 v3 v4 v5 : Value} (h : TrB w x v) (hne : x ≠ b) : TrB ((((((w.setCell ⟨b, 0, none⟩ v0).setCell ⟨b, 1, none⟩ v1).setCell ⟨b, 2, none⟩ v2).setCell ⟨b, 3, none⟩ v3).setCell ⟨b, 4, none⟩ v4).setCell ⟨b, 5, none⟩ v5) x v := ((turn_set6 w b v0 v1 v2 v3 v4 v5).block x (lt_of_block h) hne).trans h
theorem OpI.b1 {w0 wr : World} {x n c : Nat} {na : Option Addr} {o i m : Int} {p q : ByteArray} {da : Option Addr} {dn dc : Nat} {u : Value} (h : OpI w0 x na n c o i m p q da dn dc wr) : TrB (wr.setCell ⟨x + 2, 0, none⟩ u) x (.slice na n c) := TrB.off h.box (by omega)
theorem OpI.b6 {w0 wr : World} {x n c : Nat} {na : Option Addr} {o i m : Int} {p q : ByteArray} {da : Option Addr} {dn dc : Nat} {u v0 v1 v2 v3 v4 v5 : Value} (h : OpI w0 x na n c o i m p q da dn dc wr) : TrB ((((((((wr.setCell ⟨x + 2, 0, none⟩ u).setCell ⟨x + 3, 0, none⟩ v0).setCell ⟨x + 3, 1, none⟩ v1).setCell ⟨x + 3, 2, none⟩ v2).setCell ⟨x + 3, 3, none⟩ v3).setCell ⟨x + 3, 4, none⟩ v4).setCell ⟨x + 3, 5, none⟩ v5)) x (.slice na n c) := TrB.off6 (TrB.off h.box (by omega)) (by omega)
theorem OwN.slice {w : World} {v : Value} {n : Nat} {g : Nat → Nc} (h : OwN w v n g) : ∃ a c, v = .slice a n c := by
 rcases h.form with ⟨rfl, rfl⟩ | ⟨gb, c, rfl⟩
 ·exact ⟨none, 0, rfl⟩
 ·exact ⟨_, c, rfl⟩
theorem rcut_err {L : List Nd} {rm : Bool} {P : Option (List ByteArray)} {e : Int} (h : findO L P = .error e) : oCut L rm P = (L, .bad e) := by
 cases P with
 | none => cases h; rfl
 | some ns =>
  have h' : wlk L 0 ns = .error e := h
  simp only [oCut, h']
theorem rcut_one {L : List Nd} {P : Option (List ByteArray)} {k : Nat} (h : findO L P = .ok k) : ∃ ns, P = some ns ∧ wlk L 0 ns = .ok k := by
 cases P with
 | none => cases h
 | some ns => exact ⟨ns, rfl, h⟩
theorem rcut_25 {L : List Nd} {P : Option (List ByteArray)} {k : Nat} (h : findO L P = .ok k) (hd : isD (nat L k) = true) (h0 : k = 0 ∨ (nat L k).e ≠ []) : oCut L true P = (L, .bad 25) := by
 obtain ⟨ns, rfl, hw⟩ := rcut_one h
 exact oCut_fill hw hd h0
theorem rcut_23 {L : List Nd} {P : Option (List ByteArray)} {k : Nat} (h : findO L P = .ok k) (hd : isD (nat L k) = true) : oCut L false P = (L, .bad 23) := by
 obtain ⟨ns, rfl, hw⟩ := rcut_one h
 exact oCut_isD hw hd
theorem rcut_22 {L : List Nd} {P : Option (List ByteArray)} {k : Nat} (h : findO L P = .ok k) (hd : isD (nat L k) = false) : oCut L true P = (L, .bad 22) := by
 obtain ⟨ns, rfl, hw⟩ := rcut_one h
 exact oCut_notD hw hd
section
variable {w : World} {n c : Nat} {na : Option Addr} {f : Nat → Nc} {o i m : Int} {p q : ByteArray} {da : Option Addr} {dn dc : Nat}
theorem remove_any (rm : Bool) (hN : Nds w na n f) (ht : Rgt (ndL f n)) (hen : ∀ i, i < n → (f i).dn ≤ 1000000 ∧ (f i).en ≤ 100000) (hp : p.size ≤ 1000000) (ho : o = if rm then 5 else 4) :
  Calls Tryz.prog 76 #[.agg #[.slice na n c], .agg #[.int .i64 o, .string p, .string q, .int .i64 i, .int .i64 m, .slice da dn dc]] w (RefR w (oCut (ndL f n) rm (nms p))) := by
 have HO := qH ho
 clear ho
 obtain ⟨RR, hRR⟩ : ∃ RR, RR = oCut (ndL f n) rm (nms p) := ⟨_, rfl⟩
 rw [← hRR]
 have HRR := qH hRR
 obtain ⟨x, hx⟩ : ∃ x, x = w.heap.size := ⟨_, rfl⟩
 obtain ⟨w4, hw4, hI⟩ := op_start w na n c o i m p q da dn dc
 rw [← hx] at hI
 have HI0 := qH hI
 have HX := qH hx
 have HW4 := qH hw4
 unfold ResZ at hw4
 have HT := qH ht
 have HEN := qH hen
 have hn56 : n ≤ 56 := ht.le.2
 clear hRR hI hx ht
 have hc := rfindP_any (c := c) (hN.next HI0.out.bel) HT.out (fun i hi => by have := (HEN.out i hi).2; omega) p hp
 obtain ⟨b1, b2, b3, b4, b5, b6⟩ := HI0.out.op.cells
 have l1 := HI0.out.box.load
 have l2 := HI0.out.box.cell
 cases hf : findO (ndL f n) (nms p) with
 | error e9 =>
  have RRP : Hid (RR = (ndL f n, .bad e9)) := qH (HRR.out.trans (rcut_err hf))
  have he9 : (e9 != 0) = true := by
   have := findO_err hf
   simpa using this
  rw [hf] at hc
  dsimp only [wlkP] at hc
  clear hf
  go_enter Tryz.func76, Tryz.ntmps76
  go_wp2_with fail
  rw [← HX.out, ← hw4]
  refine hc.mono ?_
  rintro e w5 ⟨rfl, hb⟩
  have HI := qH (HI0.out.next hb)
  clear hc hb b1 b2 b3 b4 b5 b6 l1 l2
  go_wp2_with fail
  refine wp_region_held_drew (S := (fun w' => TrB w' x (.slice na n c))) (by kernel_rfl) ?_ (fun hHeld => ?_)
  ·exact HI.out.box
  refine rgZ 0 ?_ rfl (.inl ⟨by rfl, fun w hSw => ?_⟩) ?_ (by kernel_rfl) (fun _ _ _ h => h) (by assumption)
  rotate_left
  ·have hl := TrB.load hSw
   have hcl := TrB.cell hSw; go_simp
   try with_reducible rfl
  simp only [Act.put, rg]
  refine rgZ 1 ?_ rfl (.inl ⟨by rfl, fun w hSw => ?_⟩) ?_ (by kernel_rfl) (fun _ _ _ h => h) (by assumption)
  rotate_left
  ·(try dsimp only at hSw); go_simp; try with_reducible rfl
  simp only [Act.put, rg]
  refine rgC 2 rfl (by kernel_rfl) (fun K hK => ?_)
  simp only [rg4, rg5, rg6]
  go_simp
  refine (rwrong_any _ (e9)).mono ?_
  rintro e w7 ⟨rfl, hb7⟩
  have HI7 := qH (HI.out.next ((below_drewN (Below.refl _ _) 1).trans hb7))
  have HN7 := qH (hN.next HI7.out.bel)
  clear hb7 hHeld
  go_wp2_with fail
  refine hK.out _ _ HI7.out.box (fun _ => ?_)
  clear hK K
  obtain ⟨r1, r2, r3, ⟨a0, a1, a2, a3, a4, a5⟩, f0, f1, f2, f3, f4, f5, fl⟩ := HI7.out.all
  have HF1 := qH (HI7.out.fin (cc := c) HN7.out (resS_num w7 (e9) 0 0 0))
  refine rgC 3 rfl (by kernel_rfl) (fun K hK => ?_)
  simp only [rg4, rg5, rg6]
  go_simp
  go_wp2_with fail
  refine hK.out _ _ HI7.out.b1 (fun _ => ?_)
  clear hK K
  refine rgC 4 rfl (by kernel_rfl) (fun K hK => ?_)
  simp only [rg4, rg5, rg6]
  go_simp
  go_wp2_with fail
  refine hK.out _ _ HI7.out.b6 (fun _ => ?_)
  clear hK K
  refine wpAnyH_done (by kernel_rfl) ?_ _
  clear r1 r2 r3 a0 a1 a2 a3 a4 a5 f0 f1 f2 f3 f4 f5 fl
  go_wp2_with fail
  refine HF1.out.ret rfl rfl rfl rfl ?_
  exact RRP.out ▸ HF1.out.refR rfl
 | ok k =>
  rw [hf] at hc
  dsimp only [wlkP] at hc
  have HF := qH hf
  clear hf
  go_enter Tryz.func76, Tryz.ntmps76
  go_wp2_with fail
  rw [← HX.out, ← hw4]
  refine hc.mono ?_
  rintro e w5 ⟨rfl, hb⟩
  have HI := qH (HI0.out.next hb)
  clear hc hb b1 b2 b3 b4 b5 b6 l1 l2
  have hk : k < n := findO_lt HT.out HF.out
  have HK := qH hk
  have hb1 := HI.out.box.cell
  obtain ⟨c1, c2, c3, c4, c5, c6⟩ := HI.out.op.cells
  have hnr := hN.next HI.out.bel
  obtain ⟨nb, off, rfl, hbl, d0, d1, d2, d3⟩ := hnr.at hk
  have k0 : (0 : Int) ≤ (k : Int) := by omega
  have k1 : (k : Int) < (n : Int) := by omega
  have hnk : nat (ndL f n) k = (f k).nd := nat_ndL hk
  have HNK := qH hnk
  clear hnr hnk
  cases hd : isD (f k).nd with
  | true =>
   have hd2 : ((f k).k == 2) = true := hd; have HD := qH (show isD (nat (ndL f n) k) = true by rw [HNK.out]; exact hd); clear hd
   cases rm with
   | true =>
    obtain rfl : o = 5 := HO.out
    by_cases hz : k = 0
    ·have RRP : Hid (RR = (ndL f n, .bad 25)) := qH (HRR.out.trans (rcut_25 HF.out HD.out (Or.inl hz)))
     have hz1 : ((k : Int) == 0) = true := by simp [hz]
     have HZ := qH hz; clear hz; go_wp2_with fail; refine wp_region_held_drew (S := (fun w' => TrB w' x (.slice (some ⟨nb, off, none⟩) n c))) (by kernel_rfl) ?_ (fun hHeld => ?_)
     ·exact HI.out.box
     refine rgZ 0 ?_ rfl (.inl ⟨by rfl, fun w hSw => ?_⟩) ?_ (by kernel_rfl) (fun _ _ _ h => h) (by assumption); rotate_left
     ·have hl := TrB.load hSw
      have hcl := TrB.cell hSw; go_simp
      try with_reducible rfl
     simp only [Act.put, rg]; refine rgC 1 rfl (by kernel_rfl) (fun K hK => ?_); simp only [rg4, rg5, rg6]; go_simp; refine (rwrong_any _ (25)).mono ?_; rintro e w7 ⟨rfl, hb7⟩; have HI7 := qH (HI.out.next ((below_drewN (Below.refl _ _) 1).trans hb7)); have HN7 := qH (hN.next HI7.out.bel); clear hb7 hHeld; go_wp2_with fail; refine hK.out _ _ HI7.out.box (fun _ => ?_); clear hK K; obtain ⟨r1, r2, r3, ⟨a0, a1, a2, a3, a4, a5⟩, f0, f1, f2, f3, f4, f5, fl⟩ := HI7.out.all; have HF1 := qH (HI7.out.fin (cc := c) HN7.out (resS_num w7 (25) 0 0 0)); refine rgC 2 rfl (by kernel_rfl) (fun K hK => ?_); simp only [rg4, rg5, rg6]; go_simp; go_wp2_with fail; refine hK.out _ _ HI7.out.b1 (fun _ => ?_); clear hK K; refine rgC 3 rfl (by kernel_rfl) (fun K hK => ?_); simp only [rg4, rg5, rg6]; go_simp; go_wp2_with fail; refine hK.out _ _ HI7.out.b6 (fun _ => ?_); clear hK K; refine wpAnyH_done (by kernel_rfl) ?_ _; clear r1 r2 r3 a0 a1 a2 a3 a4 a5 f0 f1 f2 f3 f4 f5 fl; go_wp2_with fail; refine HF1.out.ret rfl rfl rfl rfl ?_
     exact RRP.out ▸ HF1.out.refR rfl
    ·have hz1 : ((k : Int) == 0) = false := by simpa using hz
     have HZ := qH hz; clear hz
     by_cases he0 : (f k).en = 0
     ·have he1 : (((f k).en : Int) != 0) = false := by simp [he0]
      have HE0 := qH he0; rw [he0] at d3; clear he0; go_wp2_with fail; obtain ⟨ns, hns, hw⟩ := rcut_one HF.out
      have hne : ns ≠ [] := (by rintro rfl; cases hw; exact HZ.out rfl)
      obtain ⟨a, hta⟩ := wlk_toB hw hne; have hc := to_any (c := c) (hN.next HI.out.bel) HT.out (fun i hi => by have := (HEN.out i hi).2; omega) p hp (by rw [hns]; simpa using hne); rw [hns] at hc; dsimp only at hc; rw [hta] at hc; dsimp only [toP] at hc; have RRP : Hid (RR = (cutE (ndL f n) a (lstN ns), .ok)) := qH (HRR.out.trans (by rw [hns]; exact oCut_dir hw HD.out HZ.out (by rw [HNK.out]; exact List.eq_nil_of_length_eq_zero (((hN.ents k HK.out).ens).len.trans HE0.out)) hta)); have HA := qH (toB_kid HT.out hta).1; refine hc.mono ?_; rintro e w6 ⟨rfl, hb6⟩; have HI6 := qH (HI.out.next hb6); clear hc hb6 hw hta hb1 c1 c2 c3 c4 c5 c6 d0 d1 d2 d3 hns hne; have l1 := HI6.out.box.load; have l2 := HI6.out.box.cell; have hc := rcutN_any (c := c) (hN.next HI6.out.bel) (by omega) HEN.out a HA.out (lstN ns); go_wp2_with fail; refine hc.mono ?_; rintro e w7 ⟨v, k9, g, rfl, hO, hL, hfresh, hb7⟩; have HI7 := qH (HI6.out.next hb7); clear hc hb7 hfresh l1 l2; obtain ⟨a9, c9, rfl⟩ := OwN.slice hO; have HN7 := qH (OwN.nds hO); have HL7 := qH hL; clear hO hL; obtain ⟨r1, r2, r3, ⟨a0, a1, a2, a3, a4, a5⟩, f0, f1, f2, f3, f4, f5, fl⟩ := HI7.out.all; have HF1 := qH (HI7.out.fin (cc := c9) HN7.out (resS_num w7 0 0 0 0)); go_wp2_with fail; clear r1 r2 r3 a0 a1 a2 a3 a4 a5 f0 f1 f2 f3 f4 f5 fl; refine HF1.out.ret rfl rfl rfl rfl ?_
      exact RRP.out ▸ HF1.out.refR HL7.out
     ·have he1 : (((f k).en : Int) != 0) = true := by simpa using he0
      have he2 : (0 : Int) < ((f k).en : Int) := by omega
      have RRP : Hid (RR = (ndL f n, .bad 25)) := qH (HRR.out.trans (rcut_25 HF.out HD.out (Or.inr (by
       rw [HNK.out]; intro h9; have h8 := ((hN.ents k HK.out).ens).len; have h7 : (f k).e = [] := h9; rw [h7] at h8
       exact he0 (by simpa using h8.symm)))))
      have HE0 := qH he0; clear he0; go_wp2_with fail; refine wp_region_held_drew (S := (fun w' => TrB w' x (.slice (some ⟨nb, off, none⟩) n c))) (by kernel_rfl) ?_ (fun hHeld => ?_)
      ·exact HI.out.box
      refine rgZ 0 ?_ rfl (.inl ⟨by rfl, fun w hSw => ?_⟩) ?_ (by kernel_rfl) (fun _ _ _ h => h) (by assumption); rotate_left
      ·have hl := TrB.load hSw
       have hcl := TrB.cell hSw; go_simp
       try with_reducible rfl
      simp only [Act.put, rg]; refine rgC 1 rfl (by kernel_rfl) (fun K hK => ?_); simp only [rg4, rg5, rg6]; go_simp; refine (rwrong_any _ (25)).mono ?_; rintro e w7 ⟨rfl, hb7⟩; have HI7 := qH (HI.out.next ((below_drewN (Below.refl _ _) 1).trans hb7)); have HN7 := qH (hN.next HI7.out.bel); clear hb7 hHeld; go_wp2_with fail; refine hK.out _ _ HI7.out.box (fun _ => ?_); clear hK K; obtain ⟨r1, r2, r3, ⟨a0, a1, a2, a3, a4, a5⟩, f0, f1, f2, f3, f4, f5, fl⟩ := HI7.out.all; have HF1 := qH (HI7.out.fin (cc := c) HN7.out (resS_num w7 (25) 0 0 0)); refine rgC 2 rfl (by kernel_rfl) (fun K hK => ?_); simp only [rg4, rg5, rg6]; go_simp; go_wp2_with fail; refine hK.out _ _ HI7.out.b1 (fun _ => ?_); clear hK K; refine rgC 3 rfl (by kernel_rfl) (fun K hK => ?_); simp only [rg4, rg5, rg6]; go_simp; go_wp2_with fail; refine hK.out _ _ HI7.out.b6 (fun _ => ?_); clear hK K; refine wpAnyH_done (by kernel_rfl) ?_ _; clear r1 r2 r3 a0 a1 a2 a3 a4 a5 f0 f1 f2 f3 f4 f5 fl; go_wp2_with fail; refine HF1.out.ret rfl rfl rfl rfl ?_
      exact RRP.out ▸ HF1.out.refR rfl
   | false =>
    obtain rfl : o = 4 := HO.out; have RRP : Hid (RR = (ndL f n, .bad 23)) := qH (HRR.out.trans (rcut_23 HF.out HD.out)); go_wp2_with fail; refine wp_region_held_drew (S := (fun w' => TrB w' x (.slice (some ⟨nb, off, none⟩) n c))) (by kernel_rfl) ?_ (fun hHeld => ?_)
    ·exact HI.out.box
    refine rgZ 0 ?_ rfl (.inl ⟨by rfl, fun w hSw => ?_⟩) ?_ (by kernel_rfl) (fun _ _ _ h => h) (by assumption); rotate_left
    ·have hl := TrB.load hSw
     have hcl := TrB.cell hSw; go_simp
     try with_reducible rfl
    simp only [Act.put, rg]; refine rgC 1 rfl (by kernel_rfl) (fun K hK => ?_); simp only [rg4, rg5, rg6]; go_simp; refine (rwrong_any _ (23)).mono ?_; rintro e w7 ⟨rfl, hb7⟩; have HI7 := qH (HI.out.next ((below_drewN (Below.refl _ _) 1).trans hb7)); have HN7 := qH (hN.next HI7.out.bel); clear hb7 hHeld; go_wp2_with fail; refine hK.out _ _ HI7.out.box (fun _ => ?_); clear hK K; obtain ⟨r1, r2, r3, ⟨a0, a1, a2, a3, a4, a5⟩, f0, f1, f2, f3, f4, f5, fl⟩ := HI7.out.all; have HF1 := qH (HI7.out.fin (cc := c) HN7.out (resS_num w7 (23) 0 0 0)); refine rgC 2 rfl (by kernel_rfl) (fun K hK => ?_); simp only [rg4, rg5, rg6]; go_simp; go_wp2_with fail; refine hK.out _ _ HI7.out.b1 (fun _ => ?_); clear hK K; refine rgC 3 rfl (by kernel_rfl) (fun K hK => ?_); simp only [rg4, rg5, rg6]; go_simp; go_wp2_with fail; refine hK.out _ _ HI7.out.b6 (fun _ => ?_); clear hK K; refine wpAnyH_done (by kernel_rfl) ?_ _; clear r1 r2 r3 a0 a1 a2 a3 a4 a5 f0 f1 f2 f3 f4 f5 fl; go_wp2_with fail; refine HF1.out.ret rfl rfl rfl rfl ?_
    exact RRP.out ▸ HF1.out.refR rfl
  | false =>
   have hd2 : ((f k).k == 2) = false := hd; have HD := qH (show isD (nat (ndL f n) k) = false by rw [HNK.out]; exact hd); clear hd
   cases rm with
   | true =>
    obtain rfl : o = 5 := HO.out; have RRP : Hid (RR = (ndL f n, .bad 22)) := qH (HRR.out.trans (rcut_22 HF.out HD.out)); go_wp2_with fail; refine wp_region_held_drew (S := (fun w' => TrB w' x (.slice (some ⟨nb, off, none⟩) n c))) (by kernel_rfl) ?_ (fun hHeld => ?_)
    ·exact HI.out.box
    refine rgZ 0 ?_ rfl (.inl ⟨by rfl, fun w hSw => ?_⟩) ?_ (by kernel_rfl) (fun _ _ _ h => h) (by assumption); rotate_left
    ·have hl := TrB.load hSw
     have hcl := TrB.cell hSw; go_simp
     try with_reducible rfl
    simp only [Act.put, rg]; refine rgC 1 rfl (by kernel_rfl) (fun K hK => ?_); simp only [rg4, rg5, rg6]; go_simp; refine (rwrong_any _ (22)).mono ?_; rintro e w7 ⟨rfl, hb7⟩; have HI7 := qH (HI.out.next ((below_drewN (Below.refl _ _) 1).trans hb7)); have HN7 := qH (hN.next HI7.out.bel); clear hb7 hHeld; go_wp2_with fail; refine hK.out _ _ HI7.out.box (fun _ => ?_); clear hK K; obtain ⟨r1, r2, r3, ⟨a0, a1, a2, a3, a4, a5⟩, f0, f1, f2, f3, f4, f5, fl⟩ := HI7.out.all; have HF1 := qH (HI7.out.fin (cc := c) HN7.out (resS_num w7 (22) 0 0 0)); refine rgC 2 rfl (by kernel_rfl) (fun K hK => ?_); simp only [rg4, rg5, rg6]; go_simp; go_wp2_with fail; refine hK.out _ _ HI7.out.b1 (fun _ => ?_); clear hK K; refine rgC 3 rfl (by kernel_rfl) (fun K hK => ?_); simp only [rg4, rg5, rg6]; go_simp; go_wp2_with fail; refine hK.out _ _ HI7.out.b6 (fun _ => ?_); clear hK K; refine wpAnyH_done (by kernel_rfl) ?_ _; clear r1 r2 r3 a0 a1 a2 a3 a4 a5 f0 f1 f2 f3 f4 f5 fl; go_wp2_with fail; refine HF1.out.ret rfl rfl rfl rfl ?_
    exact RRP.out ▸ HF1.out.refR rfl
   | false =>
    obtain rfl : o = 4 := HO.out; go_wp2_with fail; obtain ⟨ns, hns, hw⟩ := rcut_one HF.out; have hne : ns ≠ [] := ne_of_file HT.out hw HD.out; obtain ⟨a, hta⟩ := wlk_toB hw hne; have hc := to_any (c := c) (hN.next HI.out.bel) HT.out (fun i hi => by have := (HEN.out i hi).2; omega) p hp (by rw [hns]; simpa using hne); rw [hns] at hc; dsimp only at hc; rw [hta] at hc; dsimp only [toP] at hc; have RRP : Hid (RR = (cutE (ndL f n) a (lstN ns), .ok)) := qH (HRR.out.trans (by rw [hns]; exact oCut_file hw HD.out hta)); have HA := qH (toB_kid HT.out hta).1; refine hc.mono ?_; rintro e w6 ⟨rfl, hb6⟩; have HI6 := qH (HI.out.next hb6); clear hc hb6 hw hta hb1 c1 c2 c3 c4 c5 c6 d0 d1 d2 d3 hns hne; have l1 := HI6.out.box.load; have l2 := HI6.out.box.cell; have hc := rcutN_any (c := c) (hN.next HI6.out.bel) (by omega) HEN.out a HA.out (lstN ns); go_wp2_with fail; refine hc.mono ?_; rintro e w7 ⟨v, k9, g, rfl, hO, hL, hfresh, hb7⟩; have HI7 := qH (HI6.out.next hb7); clear hc hb7 hfresh l1 l2; obtain ⟨a9, c9, rfl⟩ := OwN.slice hO; have HN7 := qH (OwN.nds hO); have HL7 := qH hL; clear hO hL; obtain ⟨r1, r2, r3, ⟨a0, a1, a2, a3, a4, a5⟩, f0, f1, f2, f3, f4, f5, fl⟩ := HI7.out.all; have HF1 := qH (HI7.out.fin (cc := c9) HN7.out (resS_num w7 0 0 0 0)); go_wp2_with fail; clear r1 r2 r3 a0 a1 a2 a3 a4 a5 f0 f1 f2 f3 f4 f5 fl; refine HF1.out.ret rfl rfl rfl rfl ?_
    exact RRP.out ▸ HF1.out.refR HL7.out
end
end Go.Proofs.YtinholnidchblaaGreatDoor
