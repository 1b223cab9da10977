import Derived.Test.YtinholnidchblaaGreatDoorQat
import Derived.Deep.Cut
import Derived.Test.YtinholnidchblaaGreatDoorQad
import Derived.Test.YtinholnidchblaaGreatDoorQag
import Derived.Deep.RegionHeld
set_option linter.unusedVariables false
set_option linter.unusedSimpArgs false
set_option maxRecDepth 100000
set_option maxHeartbeats 16000000
namespace Go.Proofs.YtinholnidchblaaGreatDoor
open Go.RowKit
def NdV (w : World) (b : Nat) (k l : Int) (d e : Value) : Prop := w.heap[b]? = some (.cells #[.int .i64 k, .int .i64 l, d, e] 54 (0, 0))
section
variable {w w' : World} {b : Nat} {k l : Int} {d e : Value}
theorem NdV.cells (h : NdV w b k l d e) : w.cell? ⟨b, 0, none⟩ = some (.int .i64 k) ∧ w.cell? ⟨b, 1, none⟩ = some (.int .i64 l) ∧ w.cell? ⟨b, 2, none⟩ = some d ∧ w.cell? ⟨b, 3, none⟩ = some e := by
 unfold NdV at h
 refine ⟨?_, ?_, ?_, ?_⟩ <;> simp [World.cell?, h]
theorem NdV.next (h : NdV w b k l d e) (hb : Below w.heap.size w w') : NdV w' b k l d e := (hb.block _ (lt_of_block h)).trans h
theorem NdV.free (h : NdV w b k l d e) (i : Nat) : w.frozen? ⟨b, i, none⟩ = false := frozen_of_row w b i _ _ h
theorem NdV.load (h : NdV w b k l d e) : (loadVar 54 ⟨b, 0, none⟩).run Tryz.prog w = .ok (.agg #[.int .i64 k, .int .i64 l, d, e]) w :=
 run_loadVar_row w b _ _ _ _ _ h Tryz.underlying54 rfl (by kernel_rfl)
theorem NdV.set2 (h : NdV w b k l d e) (v : Value) : NdV (w.setCell ⟨b, 2, none⟩ v) b k l v e := cells_set h
theorem NdV.set3 (h : NdV w b k l d e) (v : Value) : NdV (w.setCell ⟨b, 3, none⟩ v) b k l d v := cells_set h
theorem NdV.odd {x y z x' y' z' : _} (h : NdV w b k l (.slice x y z) (.slice x' y' z')) : OddB w b := OddB.of h fun v hv => by
 simp only [List.mem_toArray, List.mem_cons, List.not_mem_nil, or_false] at hv
 rcases hv with e | e | e | e <;> subst e
 ·exact odd_i _
 ·exact odd_i _
 ·exact odd_s _ _ _
 ·exact odd_s _ _ _
end
structure CtI (w0 : World) (x x2 x3 : Nat) (bx z2 : Value) (i : Nat) (v : Value) (g : Nat → Nc) (wr : World) : Prop where
 bel : Below w0.heap.size w0 wr
 box : TrB wr x bx
 res : TrB wr x2 z2
 out : TrB wr x3 v
 own : OwN wr v i g
 ge : ∀ j, v.ownBlock = some j → w0.heap.size ≤ j ∧ j ≠ x ∧ j ≠ x2 ∧ j ≠ x3
 ne : x ≠ x3 ∧ x2 ≠ x3 ∧ w0.heap.size ≤ x ∧ w0.heap.size ≤ x2 ∧ w0.heap.size ≤ x3
section
variable {w0 wr w' : World} {x x2 x3 i : Nat} {bx z2 v : Value} {g : Nat → Nc}
theorem CtI.next (h : CtI w0 x x2 x3 bx z2 i v g wr) (hb : Below wr.heap.size wr w') : CtI w0 x x2 x3 bx z2 i v g w' :=
 ⟨h.bel.trans (hb.mono h.bel.size), (hb.block _ (lt_of_block h.box)).trans h.box, (hb.block _ (lt_of_block h.res)).trans h.res, (hb.block _ (lt_of_block h.out)).trans h.out, h.own.next hb, h.ge, h.ne⟩
theorem CtI.turnO {b : Nat} (h : CtI w0 x x2 x3 bx z2 i v g wr) (ho : OddB wr b) (hT : Turn (· = b) wr w') (hb : w0.heap.size ≤ b) (h1 : x ≠ b) (h2 : x2 ≠ b) (h3 : x3 ≠ b) (h4 : v.ownBlock ≠ some b) : CtI w0 x x2 x3 bx z2 i v g w' :=
 ⟨h.bel.trans (hT.below h.bel.size fun k e => by omega), (hT.block _ (lt_of_block h.box) h1).trans h.box, (hT.block _ (lt_of_block h.res) h2).trans h.res, (hT.block _ (lt_of_block h.out) h3).trans h.out, h.own.turnO ho hT h4, h.ge, h.ne⟩
theorem ct_start (w : World) (na : Option Addr) (n c : Nat) (g : Nat → Nc) : ∃ w3, w3 = ((w.alloc (.cells #[.slice na n c] 26 (0, 0))).alloc (.cells #[.slice none 0 0] 26 (0, 0))).alloc (.cells #[.slice none 0 0] 26 (0, 0)) ∧
  CtI w w.heap.size (w.heap.size + 1) (w.heap.size + 2) (.slice na n c) (.slice none 0 0) 0 (.slice none 0 0) g w3 := by
 obtain ⟨w1, h1⟩ : ∃ w1, w1 = w.alloc (.cells #[.slice na n c] 26 (0, 0)) := ⟨_, rfl⟩
 obtain ⟨w2, h2⟩ : ∃ w2, w2 = w1.alloc (.cells #[.slice none 0 0] 26 (0, 0)) := ⟨_, rfl⟩
 obtain ⟨w3, h3⟩ : ∃ w3, w3 = w2.alloc (.cells #[.slice none 0 0] 26 (0, 0)) := ⟨_, rfl⟩
 have s1 : w1.heap.size = w.heap.size + 1 := by rw [h1]; simp
 have s2 : w2.heap.size = w.heap.size + 2 := by rw [h2]; simp [s1]
 have b1 : Below w.heap.size w w1 := by rw [h1]; exact (Below.refl _ _).alloc (Nat.le_refl _) _
 have b2 : Below w1.heap.size w1 w2 := by rw [h2]; exact (Below.refl _ _).alloc (Nat.le_refl _) _
 have b3 : Below w2.heap.size w2 w3 := by rw [h3]; exact (Below.refl _ _).alloc (Nat.le_refl _) _
 have t1 : TrB w1 w.heap.size (.slice na n c) := by rw [h1]; exact heap_alloc_new w _
 have t2 : TrB w2 (w.heap.size + 1) (.slice none 0 0) := by rw [h2, ← s1]; exact heap_alloc_new w1 _
 have t3 : TrB w3 (w.heap.size + 2) (.slice none 0 0) := by rw [h3, ← s2]; exact heap_alloc_new w2 _
 refine ⟨w3, by rw [h3, h2, h1], b1.trans ((b2.mono b1.size).trans (b3.mono (Nat.le_trans b1.size b2.size))), (b3.block _ (by omega)).trans ((b2.block _ (lt_of_block t1)).trans t1), (b3.block _ (lt_of_block t2)).trans t2, t3, OwN.zero _ _, (fun j hj => by cases hj), by omega, by omega, by omega, by omega, by omega⟩
end
theorem OwN.oddV {w : World} {v : Value} {n b : Nat} {g : Nat → Nc} (h : OwN w v n g) (hb : TrB w b v) : OddB w b := by
 rcases h.form with ⟨rfl, _⟩ | ⟨gb, c, rfl⟩
 ·exact hb.odd
 ·exact hb.odd
theorem OwN.oddV' {w w' : World} {v : Value} {n b : Nat} {g : Nat → Nc} (h : OwN w v n g) (hb : TrB w' b v) (hf : v = .slice none 0 0 ∧ n = 0 ∨ ∃ gb c, v = .slice (some ⟨gb, 0, none⟩) n c) : OddB w' b := by
 rcases hf with ⟨rfl, _⟩ | ⟨gb, c, rfl⟩
 ·exact hb.odd
 ·exact hb.odd
theorem CtI.grow {w0 wr w' : World} {x x2 x3 i i' n' gb cg : Nat} {bx z2 v : Value} {g g' : Nat → Nc} (h : CtI w0 x x2 x3 bx z2 i v g wr) (hO : OwN w' (.slice (some ⟨gb, 0, none⟩) n' cg) i' g') (hT : Turn (fun j => v.ownBlock = some j) wr w') (hG : v.ownBlock = some gb ∨ wr.heap.size ≤ gb) :
  CtI w0 x x2 x3 bx z2 i' (.slice (some ⟨gb, 0, none⟩) n' cg) g' (w'.setCell ⟨x3, 0, none⟩ (.slice (some ⟨gb, 0, none⟩) n' cg)) ∧ TrB w' x3 v := by
 have o3 : TrB w' x3 v := (hT.block x3 (lt_of_block h.out) (fun e => (h.ge x3 e).2.2.2 rfl)).trans h.out
 have hge : w0.heap.size ≤ gb ∧ gb ≠ x ∧ gb ≠ x2 ∧ gb ≠ x3 := by
  rcases hG with e | e
  ·exact h.ge gb e
  ·have a1 := lt_of_block h.box
   have a2 := lt_of_block h.res; have a3 := lt_of_block h.out; have := h.bel.size
   exact ⟨by omega, by omega, by omega, by omega⟩
 have hT3 : Turn (· = x3) w' (w'.setCell ⟨x3, 0, none⟩ (.slice (some ⟨gb, 0, none⟩) n' cg)) := turn_set w' x3 0 _
 have hb' : Below w0.heap.size w0 w' := h.bel.trans (hT.below h.bel.size fun k e => (h.ge k e).1)
 refine ⟨⟨hb'.trans (hT3.below hb'.size fun k e => by rw [e]; exact h.ne.2.2.2.2), ?_, ?_, TrB.set o3 _, ?_, fun j hj => ?_, h.ne⟩, o3⟩
 ·exact (hT3.block x (Nat.lt_of_lt_of_le (lt_of_block h.box) hT.size) h.ne.1).trans ((hT.block x (lt_of_block h.box) (fun e => (h.ge x e).2.1 rfl)).trans h.box)
 ·exact (hT3.block x2 (Nat.lt_of_lt_of_le (lt_of_block h.res) hT.size) h.ne.2.1).trans ((hT.block x2 (lt_of_block h.res) (fun e => (h.ge x2 e).2.2.1 rfl)).trans h.res)
 ·exact hO.turnO (h.own.oddV' o3 h.own.form) hT3 (by simpa [Value.ownBlock] using hge.2.2.2)
 ·have ej : gb = j := by simpa [Value.ownBlock] using hj
  subst ej
  exact hge
def FreshN (B : Nat) (x : Nc) : Prop := (0 < x.dn → ∀ b off, x.da = some ⟨b, off, none⟩ → B ≤ b) ∧ (0 < x.en → ∀ b off, x.ea = some ⟨b, off, none⟩ → B ≤ b)
def TreF (w : World) (L : List Nd) (e : Ending) (w' : World) : Prop := ∃ v n g, e = .returned (.agg #[v]) ∧ OwN w' v n g ∧ ndL g n = L ∧ (∀ j, v.ownBlock = some j → w.heap.size ≤ j) ∧ Below w.heap.size w w' ∧ ∀ i, i < n → FreshN w.heap.size (g i)
def TreO (w : World) (L : List Nd) (e : Ending) (w' : World) : Prop := ∃ v n g, e = .returned (.agg #[v]) ∧ OwN w' v n g ∧ ndL g n = L ∧ (∀ j, v.ownBlock = some j → w.heap.size ≤ j) ∧ Below w.heap.size w w'
section
variable {w : World} {n c : Nat} {na : Option Addr} {f : Nat → Nc}
theorem copyTree_fresh (hN : Nds w na n f) (hn : n ≤ 100000) (hfew : ∀ i, i < n → (f i).dn ≤ 1000000 ∧ (f i).en ≤ 1000000) :
  Calls Tryz.prog 18 #[.agg #[.slice na n c]] w (TreF w (ndL f n)) := by
 obtain ⟨w3, hw3, hI⟩ := ct_start w na n c f
 obtain ⟨x, hx⟩ : ∃ x, x = w.heap.size := ⟨_, rfl⟩
 rw [← hx] at hI
 have HI0 := qH hI
 have HW3 := qH hw3
 have HX := qH hx
 have HF := qH hfew
 clear hI hw3 hx hfew
 go_enter Tryz.func18, Tryz.ntmps18
 go_wp2_with fail
 rw [← HW3.out, ← HX.out]
 clear HW3 HX
 go_loopw [4, 5] (fun v4 _ wr => ∃ (i : Nat) (v : Value) (g : Nat → Nc), i ≤ n ∧ v4 = .int .i64 i ∧ CtI w x (x + 1) (x + 2) (.slice na n c) (.slice none 0 0) i v g wr ∧ ∀ j, j < i → (g j).nd = (f j).nd ∧ FreshN w.heap.size (g j)) (fun v4 _ _ => n - (RowKit.intOf v4).toNat)
 case atStart => exact ⟨0, _, f, Nat.zero_le _, rfl, HI0.out, fun j hj => absurd hj (Nat.not_lt_zero j)⟩
 case round =>
  obtain ⟨i, v, g, hi, rfl, hI, hlike⟩ := hrel
  have HI := qH hI
  have HLIKE := qH hlike
  have b1 := hI.box.cell
  clear hlike
  by_cases hlt : i < n
  ·have HLT := qH hlt
   have i0 : (0 : Int) ≤ (i : Int) := by omega
   have i1 : (i : Int) < (n : Int) := by omega
   have hnr := hN.next hI.bel; obtain ⟨b, off, rfl, hbl, d0, d1, d2, d3⟩ := hnr.at hlt
   obtain ⟨w5, hw5⟩ : ∃ w5, w5 = wr.alloc (.cells #[.int .i64 (f i).k, .int .i64 (f i).l, .slice (f i).da (f i).dn (f i).dc, .slice (f i).ea (f i).en (f i).ec] 54 (0, 0)) := ⟨_, rfl⟩
   obtain ⟨q, hq⟩ : ∃ q, q = wr.heap.size := ⟨_, rfl⟩
   have hb5 : Below wr.heap.size wr w5 := by rw [hw5]; exact (Below.refl _ _).alloc (Nat.le_refl _) _
   have hv5 : NdV w5 q (f i).k (f i).l (.slice (f i).da (f i).dn (f i).dc) (.slice (f i).ea (f i).en (f i).ec) := by unfold NdV; rw [hw5, hq]; exact heap_alloc_new wr _
   have HV5 := qH hv5; have HI5 := qH (hI.next hb5)
   have HQN : Hid (x ≠ q ∧ x + 1 ≠ q ∧ x + 2 ≠ q ∧ v.ownBlock ≠ some q ∧ w.heap.size ≤ q) := qH (by
    have a1 := lt_of_block hI.box; have a2 := lt_of_block hI.res; have a3 := lt_of_block hI.out; refine ⟨by omega, by omega, by omega, fun e => ?_, by rw [hq]; exact hI.bel.size⟩; have := hI.own.lt q e
    omega)
   have HJ : Hid (∀ j, v.ownBlock = some j → j < w5.heap.size) := qH (fun j hj => Nat.lt_of_lt_of_le (hI.own.lt j hj) hb5.size); have HW5 := qH hw5; have HQ := qH hq; have HP5 := qH ((hnr.data i hlt).next hb5); have HE5 := qH ((hnr.ents i hlt).next hb5); have hc := copyB_any (f i).da (f i).dn (f i).dc (f i).d w5 HP5.out (by have := (HF.out i hlt).1; omega); clear hnr hw5 hq hb5 hv5 hI hbl; go_wp2_with fail; rw [← HQ.out, ← HW5.out]; refine hc.mono ?_; rintro e w6 ⟨vd, rfl, hOd, hb6⟩; obtain ⟨ad, cd, rfl, hPd, hlo⟩ := hOd.pin; have HV6 := qH (HV5.out.next hb6); have HI6 := qH (HI5.out.next hb6); have HE6 := qH (HE5.out.next hb6); have HPD := qH hPd; have HLOD := qH hlo; have HS56 : Hid (w5.heap.size ≤ w6.heap.size) := qH hb6.size
   obtain ⟨w7, hw7⟩ : ∃ w7, w7 = w6.setCell ⟨q, 2, none⟩ (.slice ad (f i).d.length cd) := ⟨_, rfl⟩
   have hT7 : Turn (· = q) w6 w7 := by rw [hw7]; exact turn_set w6 q 2 _
   have HV7 : Hid (NdV w7 q (f i).k (f i).l (.slice ad (f i).d.length cd) (.slice (f i).ea (f i).en (f i).ec)) := qH (by rw [hw7]; exact HV6.out.set2 _); have HI7 := qH (HI6.out.turnO HV6.out.odd hT7 HQN.out.2.2.2.2 HQN.out.1 HQN.out.2.1 HQN.out.2.2.1 HQN.out.2.2.2.1); have HE7 := qH (HE6.out.turn hT7 (HV6.out.odd.enz HE6.out)); have HPD7 := qH (hPd.turn hT7 (HV6.out.odd.pin hPd)); have HW7 := qH hw7; obtain ⟨n0, n1, n2, n3⟩ := HV6.out.cells; have nf := HV6.out.free 2; have nl := lt_of_block HV6.out; have hc2 := copyE_any (f i).ea (f i).en (f i).ec (f i).e w7 HE7.out.ens (HF.out i HLT.out).2 HE7.out.nil; clear hc hOd hPd hb6 hlo hw7 hT7 d0 d1 d2 d3 b1; go_wp2_with fail; rw [← HW7.out]; refine hc2.mono ?_; rintro e w8 ⟨ve, rfl, hOe, hb8⟩; obtain ⟨ae, ce, rfl, hPe, hloe⟩ := hOe.enz; have HV8 := qH (HV7.out.next hb8); have HI8 := qH (HI7.out.next hb8); have HPD8 := qH (HPD7.out.next hb8); have HS67 : Hid (w6.heap.size = w7.heap.size) := qH (by rw [HW7.out]; simp [World.setCell]); have HLOE := qH hloe
   obtain ⟨w9, hw9⟩ : ∃ w9, w9 = w8.setCell ⟨q, 3, none⟩ (.slice ae (f i).en ce) := ⟨_, rfl⟩
   have hT9 : Turn (· = q) w8 w9 := by rw [hw9]; exact turn_set w8 q 3 _
   have HV9 : Hid (NdV w9 q (f i).k (f i).l (.slice ad (f i).d.length cd) (.slice ae (f i).en ce)) := qH (by rw [hw9]; exact HV8.out.set3 _); have HI9 := qH (HI8.out.turnO HV8.out.odd hT9 HQN.out.2.2.2.2 HQN.out.1 HQN.out.2.1 HQN.out.2.2.1 HQN.out.2.2.2.1); have HPD9 := qH (HPD8.out.turn hT9 (HV8.out.odd.pin HPD8.out)); have HPE9 := qH (hPe.turn hT9 (HV8.out.odd.enz hPe)); have HW9 := qH hw9; clear hc2 hOe hPe hb8 hloe hw9 hT9 n0 n1 n2 n3 nf nl; obtain ⟨n0, n1, n2, n3⟩ := HV8.out.cells; have nf := HV8.out.free 3; have nl := lt_of_block HV8.out
   go_upto_region 8 with fail
   rw [← HW9.out]; clear n0 n1 n2 n3 nf nl; have hbA : Below w9.heap.size w9 (w9.alloc (.cells #[.int .i64 (f i).k, .int .i64 (f i).l, .slice ad (f i).d.length cd, .slice ae (f i).en ce] 54 (0, 0))) := (Below.refl _ _).alloc (Nat.le_refl _) _
   obtain ⟨y, hy⟩ : ∃ y : Nc, y = ⟨(f i).k, (f i).l, ad, (f i).d.length, cd, (f i).d, ae, (f i).en, ce, (f i).e⟩ := ⟨_, rfl⟩
   have HBA := qH hbA; have HY := qH hy; have HIA := qH (HI9.out.next hbA)
   have HOFF : Hid (∀ j, v.ownBlock = some j → Off (f i).d.length ad j j ∧ Off (f i).en ae j j) := qH (fun j hj => by
    have := HJ.out j hj; refine ⟨fun h0 b' off' e => ?_, fun h0 b' off' e => ?_⟩
    ·have h9 := (HLOD.out _ e).1
     simp only at h9
     omega
    ·have h9 := (HLOE.out _ e).1
     have h8 := HS67.out; have h7 := HS56.out; simp only at h9
     omega)
   obtain ⟨n0, n1, n2, n3⟩ := HV9.out.cells; have nl := HV9.out.load; have o1 := HI9.out.out.cell; have ol := lt_of_block HI9.out.out; have ql := lt_of_block HV9.out; clear hbA hy
   go_wp2_with (at_builtin; go_must (refine wpList_apO rfl (.tmp 28) (.tmp 30) rfl v i g rfl HIA.out.own ⟨(f i).k, (f i).l, ad, (f i).d.length, cd, (f i).d, ae, (f i).en, ce, (f i).e⟩ w9.heap.size rfl (heap_alloc_new w9 _) (HPD9.out.next HBA.out) (HPE9.out.next HBA.out) HOFF.out (by omega) ?_); intro gb cg w11 hO11 hT11 hG11; have hgr := HIA.out.grow hO11 hT11 hG11; have HGR := qH hgr.1; have s1 := hgr.2.cell; have s2 := hgr.2.free 0; have s3 := lt_of_block hgr.2; clear hO11 hT11 hG11 hgr)
   go_roundw
   case rel => exact ⟨i + 1, _, _, HLT.out, by go_num, HGR.out, fun j hj => by
    by_cases e : j = i
    ·subst e
     rw [updN_same]; refine ⟨rfl, fun _ b' off' e => ?_, fun _ b' off' e => ?_⟩
     ·have h9 := (HLOD.out _ e).1
      have h8 := HI5.out.bel.size; simp only at h9
      omega
     ·have h9 := (HLOE.out _ e).1
      have h8 := HS67.out; have h7 := HS56.out; have h6 := HI5.out.bel.size; simp only at h9
      omega
    ·rw [updN_other _ _ e]
     exact HLIKE.out j (by omega)⟩
   case measure => have := HLT.out; simp [RowKit.intOf]; omega
  ·obtain rfl : i = n := by omega
   have hform := hI.own.form
   rcases hform with ⟨hv0, _⟩ | ⟨gb, cg, hv0⟩
   ·subst hv0
    have o1 := hI.out.cell; have o2 := hI.own.oddV hI.out; have o3 : (loadVar 26 ⟨x + 2, 0, none⟩).run Tryz.prog wr = .ok (.agg #[(.slice none 0 0)]) wr := TrB.load hI.out; have r1 := hI.res.cell; have r2 := hI.res.free 0; have r3 := lt_of_block hI.res; have hTE : Turn (· = x + 1) wr (wr.setCell ⟨x + 1, 0, none⟩ (.slice none 0 0)) := turn_set wr (x + 1) 0 _; have HTE := qH hTE; have HOE : Hid (OwN (wr.setCell ⟨x + 1, 0, none⟩ (.slice none 0 0)) (.slice none 0 0) i g) := qH (hI.own.turnO hI.res.odd hTE (fun e => (hI.ge _ e).2.2.1 rfl)); have HRE : Hid (TrB (wr.setCell ⟨x + 1, 0, none⟩ (.slice none 0 0)) (x + 1) ((.slice none 0 0))) := qH (TrB.set hI.res _); clear hI o2 hTE; go_wp2_with fail; refine bodyPost_ret (res_c1 rfl _ _ ⟨x + 1, 0, none⟩ _ rfl (TrB.load HRE.out)) rfl ?_; refine ⟨_, i, g, rfl, HOE.out, ?_, fun j hj => (HI.out.ge j hj).1, HI.out.bel.trans (HTE.out.below HI.out.bel.size fun k e => by rw [e]; exact HI.out.ne.2.2.2.1), fun j hj => (HLIKE.out j hj).2⟩
    exact List.map_congr_left fun j hj => (HLIKE.out j (List.mem_range.1 hj)).1
   ·subst hv0
    have o1 := hI.out.cell; have o2 := hI.own.oddV hI.out; have o3 : (loadVar 26 ⟨x + 2, 0, none⟩).run Tryz.prog wr = .ok (.agg #[(.slice (some ⟨gb, 0, none⟩) i cg)]) wr := TrB.load hI.out; have r1 := hI.res.cell; have r2 := hI.res.free 0; have r3 := lt_of_block hI.res; have hTE : Turn (· = x + 1) wr (wr.setCell ⟨x + 1, 0, none⟩ (.slice (some ⟨gb, 0, none⟩) i cg)) := turn_set wr (x + 1) 0 _; have HTE := qH hTE; have HOE : Hid (OwN (wr.setCell ⟨x + 1, 0, none⟩ (.slice (some ⟨gb, 0, none⟩) i cg)) (.slice (some ⟨gb, 0, none⟩) i cg) i g) := qH (hI.own.turnO hI.res.odd hTE (fun e => (hI.ge _ e).2.2.1 rfl)); have HRE : Hid (TrB (wr.setCell ⟨x + 1, 0, none⟩ (.slice (some ⟨gb, 0, none⟩) i cg)) (x + 1) ((.slice (some ⟨gb, 0, none⟩) i cg))) := qH (TrB.set hI.res _); clear hI o2 hTE; go_wp2_with fail; refine bodyPost_ret (res_c1 rfl _ _ ⟨x + 1, 0, none⟩ _ rfl (TrB.load HRE.out)) rfl ?_; refine ⟨_, i, g, rfl, HOE.out, ?_, fun j hj => (HI.out.ge j hj).1, HI.out.bel.trans (HTE.out.below HI.out.bel.size fun k e => by rw [e]; exact HI.out.ne.2.2.2.1), fun j hj => (HLIKE.out j hj).2⟩
    exact List.map_congr_left fun j hj => (HLIKE.out j (List.mem_range.1 hj)).1
theorem copyTree_any (hN : Nds w na n f) (hn : n ≤ 100000) (hfew : ∀ i, i < n → (f i).dn ≤ 1000000 ∧ (f i).en ≤ 1000000) :
  Calls Tryz.prog 18 #[.agg #[.slice na n c]] w (TreO w (ndL f n)) :=
 (copyTree_fresh hN hn hfew).mono fun e w' ⟨v, k, g, h1, h2, h3, h4, h5, _⟩ => ⟨v, k, g, h1, h2, h3, h4, h5⟩
end
theorem rput_any (a : Option Addr) (n c : Nat) (L : List En) (x : En) (w : World) (h : Ens w a n L) (hn : n ≤ 100000) (hz : a = none → n = 0 ∧ c = 0) (hq : n ≤ c) (hm : c ≤ 9223372036854775807) :
  Calls Tryz.prog 134 #[.slice a n c, env x] w (InsPost w.heap.size w (eput L x).length (eput L x)) := by
 obtain ⟨s, i⟩ := x
 have hb0 : Below w.heap.size w (w.alloc (.cells #[.string s, .int .i64 i] 77 (0, 0))) := (Below.refl _ _).alloc (Nat.le_refl _) _
 have hfi := rfind_any a n c L s (w.alloc (.cells #[.string s, .int .i64 i] 77 (0, 0))) (h.next hb0) (by omega)
 have HB := qH hb0
 have HH := qH h
 have HZ := qH hz
 have hl := h.len
 clear h hb0 hz
 unfold env
 simp only
 go_enter Tryz.func134, Tryz.ntmps134
 go_wp2_with fail
 refine hfi.mono ?_
 rintro e w1 ⟨rfl, hb1⟩
 have hB1 := HB.out.trans (hb1.mono HB.out.size)
 have c0 := hb1.cell (p := ⟨w.heap.size, 0, none⟩) (by simp)
 have c1 := hb1.cell (p := ⟨w.heap.size, 1, none⟩) (by simp)
 rw [show (w.alloc (.cells #[.string s, .int .i64 i] 77 (0, 0))).cell? ⟨w.heap.size, 0, none⟩ = some (.string s) by simp] at c0
 rw [show (w.alloc (.cells #[.string s, .int .i64 i] 77 (0, 0))).cell? ⟨w.heap.size, 1, none⟩ = some (.int .i64 i) by simp] at c1
 have hwl : w.heap.size < w1.heap.size := Nat.lt_of_lt_of_le (by simp) hb1.size
 have HC := qH (And.intro c0 (And.intro c1 hwl))
 have HB1 := qH hB1
 have hfl := efix_le L s
 obtain ⟨k, hk⟩ : ∃ k, efix L s = k := ⟨_, rfl⟩
 have HK := qH hk
 have HH1 := qH (HH.out.next hB1)
 rw [hk] at hfl ⊢
 have HT := qH (((HH1.out.take (k := k) (by omega)).alloc (.cells #[] 77)))
 have HO := qH (ownE_none w1 w1.heap.size (Nat.le_refl _))
 have HB2 := qH ((Below.refl w1.heap.size w1).alloc (Nat.le_refl _) (.cells #[] 77))
 have HN1 := qH (show a = none → k = 0 ∧ c = 0 from fun e => by have := HZ.out e; omega)
 have k0 : (0 : Int) ≤ (k : Int) := by omega
 have k1 : (k : Int) ≤ (c : Int) := by omega
 have k2 : (k : Int) ≤ (n : Int) := by omega
 clear hB1 hb1 hfi hk c0 c1 hwl
 cases hh : ehas L s with
 | true =>
  have hlt := ehas_lt hh
  rw [HK.out] at hlt
  have hlt2 : k + 1 ≤ n := by omega
  obtain ⟨b, off, rfl, _, _, _⟩ := HH1.out.at (i := k) (by omega)
  have hres := qH (show L.take k ++ (⟨s, i⟩ : En) :: L.drop (k + 1) = eput L ⟨s, i⟩ by unfold eput; rw [show efix L (En.mk s i).s = k from HK.out, show ehas L (En.mk s i).s = true from hh]; rfl)
  have w1' : IntKind.i64.wrap ((k : Int) + 1) = (k : Int) + 1 := IntWalk.i64_in _ (by omega)
  have k3 : (0 : Int) ≤ (k : Int) + 1 := by omega
  have k4 : (k : Int) + 1 ≤ (n : Int) := by omega
  have t1 : ((k : Int) + 1).toNat = k + 1 := by omega
  clear hh
  by_cases hcn : c = k + 1
  ·obtain rfl : n = k + 1 := by omega
   subst hcn; have hdr : L.drop (k + 1) = [] := List.drop_of_length_le (by omega); have HD := qH (show Ens w1 (some ⟨b, off, none⟩) 0 [] from ens_nil _ _)
   go_wp2_with (first
    | (at_builtin
       refine wpList_ape rfl (.tmp 16) (.tmp 19) rfl w1.heap.size _ 0 [] rfl HO.out (some ⟨b, off, none⟩) k (k + 1) (L.take k) rfl HT.out (fun h => by cases h) (by omega) (by simp) w1 HB2.out ?_; intro v4 w4 ho4 hb4; have c0 := (hb4.cell (p := ⟨w.heap.size, 0, none⟩) HC.out.2.2).trans HC.out.1; have c1 := (hb4.cell (p := ⟨w.heap.size, 1, none⟩) HC.out.2.2).trans HC.out.2.1; rw [Nat.zero_add, List.nil_append] at ho4; have HO4 := qH (ho4.alloc (.cells #[.string s, .int .i64 i] 77 (0, 0))); have HM4 := qH (ens_one (w := w4) (g := w4.heap.size) s i rfl); have HB4 := qH (hb4.alloc hb4.size (.cells #[.string s, .int .i64 i] 77 (0, 0))); have hsz4 := hb4.size
       clear ho4 hb4)
    | (at_builtin
       refine wpList_ape rfl (.tmp 21) (.tmp 23) rfl w1.heap.size _ k (L.take k) rfl HO4.out (some ⟨w4.heap.size, 0, none⟩) 1 1 [En.mk s i] rfl HM4.out (fun h => by cases h) (by omega) (by simp; omega) w1 HB4.out ?_; intro v5 w5 ho5 hb5; have HO5 := qH ho5; have HB5 := qH hb5; have HM5 := qH (HD.out.below (Nat.le_refl _) hb5); have hsz5 := hb5.size
       clear ho5 hb5)
    | (at_builtin
       refine wpList_ape rfl (.tmp 28) (.tmp 31) rfl w1.heap.size _ (k + 1) (L.take k ++ [En.mk s i]) rfl HO5.out (some ⟨b, off, none⟩) 0 0 [] rfl HM5.out (fun h => by cases h) (by omega) (by omega) w1 HB5.out ?_; intro v6 w6 ho6 hb6; have HO6 := qH ho6; have HB6 := qH hb6
       clear ho6 hb6))
   go_ret; have hww : w.heap.size ≤ w1.heap.size := HB1.out.size; have hfin := HO6.out.lower hww
   have e : L.take k ++ [En.mk s i] ++ [] = eput L ⟨s, i⟩ := by rw [← hres.out, hdr]; simp
   rw [e] at hfin; refine ⟨_, rfl, ?_, HB1.out.trans (HB6.out.mono hww)⟩; rw [hfin.len]
   exact hfin
  ·have hcn2 : ¬ (c = k + 1) := hcn
   have HD := qH (show Ens w1 (some ⟨b, off + (k + 1) * 2, none⟩) (n - (k + 1)) (L.drop (k + 1)) from HH1.out.drop)
   go_wp2_with (first
    | (at_builtin
       refine wpList_ape rfl (.tmp 16) (.tmp 19) rfl w1.heap.size _ 0 [] rfl HO.out (some ⟨b, off, none⟩) k c (L.take k) rfl HT.out (fun h => by cases h) (by omega) (by simp) w1 HB2.out ?_; intro v4 w4 ho4 hb4; have c0 := (hb4.cell (p := ⟨w.heap.size, 0, none⟩) HC.out.2.2).trans HC.out.1; have c1 := (hb4.cell (p := ⟨w.heap.size, 1, none⟩) HC.out.2.2).trans HC.out.2.1; rw [Nat.zero_add, List.nil_append] at ho4; have HO4 := qH (ho4.alloc (.cells #[.string s, .int .i64 i] 77 (0, 0))); have HM4 := qH (ens_one (w := w4) (g := w4.heap.size) s i rfl); have HB4 := qH (hb4.alloc hb4.size (.cells #[.string s, .int .i64 i] 77 (0, 0))); have hsz4 := hb4.size
       clear ho4 hb4)
    | (at_builtin
       refine wpList_ape rfl (.tmp 21) (.tmp 23) rfl w1.heap.size _ k (L.take k) rfl HO4.out (some ⟨w4.heap.size, 0, none⟩) 1 1 [En.mk s i] rfl HM4.out (fun h => by cases h) (by omega) (by simp; omega) w1 HB4.out ?_; intro v5 w5 ho5 hb5; have HO5 := qH ho5; have HB5 := qH hb5; have HM5 := qH (HD.out.below (Nat.le_refl _) hb5); have hsz5 := hb5.size
       clear ho5 hb5)
    | (at_builtin
       refine wpList_ape rfl (.tmp 28) (.tmp 31) rfl w1.heap.size _ (k + 1) (L.take k ++ [En.mk s i]) rfl HO5.out (some ⟨b, off + (k + 1) * 2, none⟩) (n - (k + 1)) (c - (k + 1)) (L.drop (k + 1)) rfl HM5.out (fun h => by cases h) (by omega) (by omega) w1 HB5.out ?_; intro v6 w6 ho6 hb6; have HO6 := qH ho6; have HB6 := qH hb6
       clear ho6 hb6))
   go_ret; have hww : w.heap.size ≤ w1.heap.size := HB1.out.size; have hfin := HO6.out.lower hww
   have e : L.take k ++ [En.mk s i] ++ (L.drop (k + 1)) = eput L ⟨s, i⟩ := by rw [← hres.out]; simp
   rw [e] at hfin; refine ⟨_, rfl, ?_, HB1.out.trans (HB6.out.mono hww)⟩; rw [hfin.len]
   exact hfin
 | false =>
  have hres := qH (show L.take k ++ (⟨s, i⟩ : En) :: L.drop k = eput L ⟨s, i⟩ by unfold eput; rw [show efix L (En.mk s i).s = k from HK.out, show ehas L (En.mk s i).s = false from hh]; rfl)
  have hww1 : w1.heap.size ≤ w1.heap.size := Nat.le_refl _
  clear hh
  by_cases hn0 : n = 0
  ·obtain rfl : L = [] := List.length_eq_zero_iff.1 (by omega)
   subst hn0
   obtain rfl : k = 0 := by omega
   cases a with
   | none =>
    obtain ⟨_, rfl⟩ := HZ.out rfl; have HD := qH (show Ens w1 none 0 [] from ens_nil _ _)
    go_wp2_with (first
     | (at_builtin
        refine wpList_ape rfl (.tmp 16) (.tmp 19) rfl w1.heap.size _ 0 [] rfl HO.out none 0 0 [] rfl HT.out (fun _ => ⟨rfl, rfl⟩) (by omega) (by simp) w1 HB2.out ?_; intro v4 w4 ho4 hb4; have c0 := (hb4.cell (p := ⟨w.heap.size, 0, none⟩) HC.out.2.2).trans HC.out.1; have c1 := (hb4.cell (p := ⟨w.heap.size, 1, none⟩) HC.out.2.2).trans HC.out.2.1; rw [Nat.zero_add, List.nil_append] at ho4; have HO4 := qH (ho4.alloc (.cells #[.string s, .int .i64 i] 77 (0, 0))); have HM4 := qH (ens_one (w := w4) (g := w4.heap.size) s i rfl); have HB4 := qH (hb4.alloc hb4.size (.cells #[.string s, .int .i64 i] 77 (0, 0))); have hsz4 := hb4.size
        clear ho4 hb4)
     | (at_builtin
        refine wpList_ape rfl (.tmp 21) (.tmp 23) rfl w1.heap.size _ 0 [] rfl HO4.out (some ⟨w4.heap.size, 0, none⟩) 1 1 [En.mk s i] rfl HM4.out (fun h => by cases h) (by omega) (by simp; omega) w1 HB4.out ?_; intro v5 w5 ho5 hb5; have HO5 := qH ho5; have HB5 := qH hb5; have HM5 := qH (HD.out.below (Nat.le_refl _) hb5); have hsz5 := hb5.size
        clear ho5 hb5)
     | (at_builtin
        refine wpList_ape rfl (.tmp 28) (.tmp 31) rfl w1.heap.size _ (0 + 1) ([] ++ [En.mk s i]) rfl HO5.out none 0 0 [] rfl HM5.out (fun _ => ⟨rfl, rfl⟩) (by omega) (by omega) w1 HB5.out ?_; intro v6 w6 ho6 hb6; have HO6 := qH ho6; have HB6 := qH hb6
        clear ho6 hb6))
    go_ret; have hww : w.heap.size ≤ w1.heap.size := HB1.out.size; have hfin := HO6.out.lower hww
    have e : [] ++ [En.mk s i] ++ [] = eput [] ⟨s, i⟩ := by rw [← hres.out]; simp
    rw [e] at hfin; refine ⟨_, rfl, ?_, HB1.out.trans (HB6.out.mono hww)⟩; rw [hfin.len]
    exact hfin
   | some p =>
    by_cases hcn : c = 0
    ·subst hcn
     have HD := qH (show Ens w1 (some p) 0 [] from ens_nil _ _)
     go_wp2_with (first
      | (at_builtin
         refine wpList_ape rfl (.tmp 16) (.tmp 19) rfl w1.heap.size _ 0 [] rfl HO.out (some p) 0 0 [] rfl HT.out (fun h => by cases h) (by omega) (by simp) w1 HB2.out ?_; intro v4 w4 ho4 hb4; have c0 := (hb4.cell (p := ⟨w.heap.size, 0, none⟩) HC.out.2.2).trans HC.out.1; have c1 := (hb4.cell (p := ⟨w.heap.size, 1, none⟩) HC.out.2.2).trans HC.out.2.1; rw [Nat.zero_add, List.nil_append] at ho4; have HO4 := qH (ho4.alloc (.cells #[.string s, .int .i64 i] 77 (0, 0))); have HM4 := qH (ens_one (w := w4) (g := w4.heap.size) s i rfl); have HB4 := qH (hb4.alloc hb4.size (.cells #[.string s, .int .i64 i] 77 (0, 0))); have hsz4 := hb4.size
         clear ho4 hb4)
      | (at_builtin
         refine wpList_ape rfl (.tmp 21) (.tmp 23) rfl w1.heap.size _ 0 [] rfl HO4.out (some ⟨w4.heap.size, 0, none⟩) 1 1 [En.mk s i] rfl HM4.out (fun h => by cases h) (by omega) (by simp; omega) w1 HB4.out ?_; intro v5 w5 ho5 hb5; have HO5 := qH ho5; have HB5 := qH hb5; have HM5 := qH (HD.out.below (Nat.le_refl _) hb5); have hsz5 := hb5.size
         clear ho5 hb5)
      | (at_builtin
         refine wpList_ape rfl (.tmp 28) (.tmp 31) rfl w1.heap.size _ (0 + 1) ([] ++ [En.mk s i]) rfl HO5.out (some p) 0 0 [] rfl HM5.out (fun h => by cases h) (by omega) (by omega) w1 HB5.out ?_; intro v6 w6 ho6 hb6; have HO6 := qH ho6; have HB6 := qH hb6
         clear ho6 hb6))
     go_ret; have hww : w.heap.size ≤ w1.heap.size := HB1.out.size; have hfin := HO6.out.lower hww
     have e : [] ++ [En.mk s i] ++ [] = eput [] ⟨s, i⟩ := by rw [← hres.out]; simp
     rw [e] at hfin; refine ⟨_, rfl, ?_, HB1.out.trans (HB6.out.mono hww)⟩; rw [hfin.len]
     exact hfin
    ·have hcn2 : ¬ (c = 0) := hcn
     have HD := qH (show Ens w1 (some p) 0 [] from ens_nil _ _)
     go_wp2_with (first
      | (at_builtin
         refine wpList_ape rfl (.tmp 16) (.tmp 19) rfl w1.heap.size _ 0 [] rfl HO.out (some p) 0 c [] rfl HT.out (fun h => by cases h) (by omega) (by simp) w1 HB2.out ?_; intro v4 w4 ho4 hb4; have c0 := (hb4.cell (p := ⟨w.heap.size, 0, none⟩) HC.out.2.2).trans HC.out.1; have c1 := (hb4.cell (p := ⟨w.heap.size, 1, none⟩) HC.out.2.2).trans HC.out.2.1; rw [Nat.zero_add, List.nil_append] at ho4; have HO4 := qH (ho4.alloc (.cells #[.string s, .int .i64 i] 77 (0, 0))); have HM4 := qH (ens_one (w := w4) (g := w4.heap.size) s i rfl); have HB4 := qH (hb4.alloc hb4.size (.cells #[.string s, .int .i64 i] 77 (0, 0))); have hsz4 := hb4.size
         clear ho4 hb4)
      | (at_builtin
         refine wpList_ape rfl (.tmp 21) (.tmp 23) rfl w1.heap.size _ 0 [] rfl HO4.out (some ⟨w4.heap.size, 0, none⟩) 1 1 [En.mk s i] rfl HM4.out (fun h => by cases h) (by omega) (by simp; omega) w1 HB4.out ?_; intro v5 w5 ho5 hb5; have HO5 := qH ho5; have HB5 := qH hb5; have HM5 := qH (HD.out.below (Nat.le_refl _) hb5); have hsz5 := hb5.size
         clear ho5 hb5)
      | (at_builtin
         refine wpList_ape rfl (.tmp 28) (.tmp 31) rfl w1.heap.size _ (0 + 1) ([] ++ [En.mk s i]) rfl HO5.out (some p) 0 c [] rfl HM5.out (fun h => by cases h) (by omega) (by omega) w1 HB5.out ?_; intro v6 w6 ho6 hb6; have HO6 := qH ho6; have HB6 := qH hb6
         clear ho6 hb6))
     go_ret; have hww : w.heap.size ≤ w1.heap.size := HB1.out.size; have hfin := HO6.out.lower hww
     have e : [] ++ [En.mk s i] ++ [] = eput [] ⟨s, i⟩ := by rw [← hres.out]; simp
     rw [e] at hfin; refine ⟨_, rfl, ?_, HB1.out.trans (HB6.out.mono hww)⟩; rw [hfin.len]
     exact hfin
  ·obtain ⟨b, off, rfl, _, _, _⟩ := HH1.out.at (i := 0) (by omega)
   by_cases hcn : c = k
   ·obtain rfl : n = k := by omega
    subst hcn; have hdr : L.drop c = [] := List.drop_of_length_le (by omega); have HD := qH (show Ens w1 (some ⟨b, off, none⟩) 0 [] from ens_nil _ _)
    go_wp2_with (first
     | (at_builtin
        refine wpList_ape rfl (.tmp 16) (.tmp 19) rfl w1.heap.size _ 0 [] rfl HO.out (some ⟨b, off, none⟩) c c (L.take c) rfl HT.out (fun h => by cases h) (by omega) (by simp) w1 HB2.out ?_; intro v4 w4 ho4 hb4; have c0 := (hb4.cell (p := ⟨w.heap.size, 0, none⟩) HC.out.2.2).trans HC.out.1; have c1 := (hb4.cell (p := ⟨w.heap.size, 1, none⟩) HC.out.2.2).trans HC.out.2.1; rw [Nat.zero_add, List.nil_append] at ho4; have HO4 := qH (ho4.alloc (.cells #[.string s, .int .i64 i] 77 (0, 0))); have HM4 := qH (ens_one (w := w4) (g := w4.heap.size) s i rfl); have HB4 := qH (hb4.alloc hb4.size (.cells #[.string s, .int .i64 i] 77 (0, 0))); have hsz4 := hb4.size
        clear ho4 hb4)
     | (at_builtin
        refine wpList_ape rfl (.tmp 21) (.tmp 23) rfl w1.heap.size _ c (L.take c) rfl HO4.out (some ⟨w4.heap.size, 0, none⟩) 1 1 [En.mk s i] rfl HM4.out (fun h => by cases h) (by omega) (by simp; omega) w1 HB4.out ?_; intro v5 w5 ho5 hb5; have HO5 := qH ho5; have HB5 := qH hb5; have HM5 := qH (HD.out.below (Nat.le_refl _) hb5); have hsz5 := hb5.size
        clear ho5 hb5)
     | (at_builtin
        refine wpList_ape rfl (.tmp 28) (.tmp 31) rfl w1.heap.size _ (c + 1) (L.take c ++ [En.mk s i]) rfl HO5.out (some ⟨b, off, none⟩) 0 0 [] rfl HM5.out (fun h => by cases h) (by omega) (by omega) w1 HB5.out ?_; intro v6 w6 ho6 hb6; have HO6 := qH ho6; have HB6 := qH hb6
        clear ho6 hb6))
    go_ret; have hww : w.heap.size ≤ w1.heap.size := HB1.out.size; have hfin := HO6.out.lower hww
    have e : L.take c ++ [En.mk s i] ++ [] = eput L ⟨s, i⟩ := by rw [← hres.out, hdr]; simp
    rw [e] at hfin; refine ⟨_, rfl, ?_, HB1.out.trans (HB6.out.mono hww)⟩; rw [hfin.len]
    exact hfin
   ·have hcn2 : ¬ (c = k) := hcn
    have HD := qH (show Ens w1 (some ⟨b, off + k * 2, none⟩) (n - k) (L.drop k) from HH1.out.drop)
    go_wp2_with (first
     | (at_builtin
        refine wpList_ape rfl (.tmp 16) (.tmp 19) rfl w1.heap.size _ 0 [] rfl HO.out (some ⟨b, off, none⟩) k c (L.take k) rfl HT.out (fun h => by cases h) (by omega) (by simp) w1 HB2.out ?_; intro v4 w4 ho4 hb4; have c0 := (hb4.cell (p := ⟨w.heap.size, 0, none⟩) HC.out.2.2).trans HC.out.1; have c1 := (hb4.cell (p := ⟨w.heap.size, 1, none⟩) HC.out.2.2).trans HC.out.2.1; rw [Nat.zero_add, List.nil_append] at ho4; have HO4 := qH (ho4.alloc (.cells #[.string s, .int .i64 i] 77 (0, 0))); have HM4 := qH (ens_one (w := w4) (g := w4.heap.size) s i rfl); have HB4 := qH (hb4.alloc hb4.size (.cells #[.string s, .int .i64 i] 77 (0, 0))); have hsz4 := hb4.size
        clear ho4 hb4)
     | (at_builtin
        refine wpList_ape rfl (.tmp 21) (.tmp 23) rfl w1.heap.size _ k (L.take k) rfl HO4.out (some ⟨w4.heap.size, 0, none⟩) 1 1 [En.mk s i] rfl HM4.out (fun h => by cases h) (by omega) (by simp; omega) w1 HB4.out ?_; intro v5 w5 ho5 hb5; have HO5 := qH ho5; have HB5 := qH hb5; have HM5 := qH (HD.out.below (Nat.le_refl _) hb5); have hsz5 := hb5.size
        clear ho5 hb5)
     | (at_builtin
        refine wpList_ape rfl (.tmp 28) (.tmp 31) rfl w1.heap.size _ (k + 1) (L.take k ++ [En.mk s i]) rfl HO5.out (some ⟨b, off + k * 2, none⟩) (n - k) (c - k) (L.drop k) rfl HM5.out (fun h => by cases h) (by omega) (by omega) w1 HB5.out ?_; intro v6 w6 ho6 hb6; have HO6 := qH ho6; have HB6 := qH hb6
        clear ho6 hb6))
    go_ret; have hww : w.heap.size ≤ w1.heap.size := HB1.out.size; have hfin := HO6.out.lower hww
    have e : L.take k ++ [En.mk s i] ++ (L.drop k) = eput L ⟨s, i⟩ := by rw [← hres.out]; simp
    rw [e] at hfin; refine ⟨_, rfl, ?_, HB1.out.trans (HB6.out.mono hww)⟩; rw [hfin.len]
    exact hfin
section
variable {w : World} {gb n c i : Nat} {g : Nat → Nc}
theorem OwN.freeJ (h : OwN w (.slice (some ⟨gb, 0, none⟩) n c) n g) (j : Nat) : w.frozen? ⟨gb, j, none⟩ = false := h.row.frozenAt j
theorem OwN.setE (h : OwN w (.slice (some ⟨gb, 0, none⟩) n c) n g) (hi : i < n) {a : Option Addr} {m k : Nat} {E : List En} (hE : Enz w a m k E) (ho : Off m a gb gb) :
  OwN (w.setCell ⟨gb, 0 + i * 4 + 3, none⟩ (.slice a m k)) (.slice (some ⟨gb, 0, none⟩) n c) n (updN g i { g i with ea := a, en := m, ec := k, e := E }) := by
 have ht : Turn (· = gb) w (w.setCell ⟨gb, 0 + i * 4 + 3, none⟩ (.slice a m k)) := Turn.setCell (M := (· = gb)) (a := ⟨gb, 0 + i * 4 + 3, none⟩) w rfl _
 have h1 := (h.row.stored (0 + i * 4 + 3) (.slice a m k)).1
 have e0 : 0 + i * 4 + 3 = i * 4 + 3 := by omega
 refine ⟨?_, fun j hj => ?_, fun j hj => ?_⟩
 ·rw [e0, nflat_upd g (x := { g i with ea := a, en := m, ec := k, e := E }) _ hi (by omega) rfl] at h1
  rw [e0]
  exact h1
 ·have hd := h.data j hj
  have hp := hd.1.turn ht fun h0 b off ha => (hd.2 gb rfl h0 b off ha).1
  by_cases e : j = i
  ·subst e
   rw [updN_same]
   exact ⟨hp, hd.2⟩
  ·rw [updN_other _ _ e]
   exact ⟨hp, hd.2⟩
 ·by_cases e : j = i
  ·subst e
   rw [updN_same]
   exact ⟨hE.turn ht fun h0 b off ha => (ho h0 b off ha).1, fun j' hj' => by
    have ej : gb = j' := by simpa [Value.ownBlock] using hj'
    subst ej; exact ho⟩
  ·rw [updN_other _ _ e]
   have he := h.ents j hj
   exact ⟨he.1.turn ht fun h0 b off ha => (he.2 gb rfl h0 b off ha).1, he.2⟩
theorem OwN.setD (h : OwN w (.slice (some ⟨gb, 0, none⟩) n c) n g) (hi : i < n) {a : Option Addr} {m k : Nat} {zs : List Int} (hE : Pin w a m k zs) (ho : Off m a gb gb) :
  OwN (w.setCell ⟨gb, 0 + i * 4 + 2, none⟩ (.slice a m k)) (.slice (some ⟨gb, 0, none⟩) n c) n (updN g i { g i with da := a, dn := m, dc := k, d := zs }) := by
 have ht : Turn (· = gb) w (w.setCell ⟨gb, 0 + i * 4 + 2, none⟩ (.slice a m k)) := Turn.setCell (M := (· = gb)) (a := ⟨gb, 0 + i * 4 + 2, none⟩) w rfl _
 have h1 := (h.row.stored (0 + i * 4 + 2) (.slice a m k)).1
 have e0 : 0 + i * 4 + 2 = i * 4 + 2 := by omega
 refine ⟨?_, fun j hj => ?_, fun j hj => ?_⟩
 ·rw [e0, nflat_upd g (x := { g i with da := a, dn := m, dc := k, d := zs }) _ hi (by omega) rfl] at h1
  rw [e0]
  exact h1
 ·by_cases e : j = i
  ·subst e
   rw [updN_same]
   exact ⟨hE.turn ht fun h0 b off ha => (ho h0 b off ha).1, fun j' hj' => by
    have ej : gb = j' := by simpa [Value.ownBlock] using hj'
    subst ej; exact ho⟩
  ·rw [updN_other _ _ e]
   have hd := h.data j hj
   exact ⟨hd.1.turn ht fun h0 b off ha => (hd.2 gb rfl h0 b off ha).1, hd.2⟩
 ·have he := h.ents j hj
  have hp := he.1.turn ht fun h0 b off ha => (he.2 gb rfl h0 b off ha).1
  by_cases e : j = i
  ·subst e
   rw [updN_same]
   exact ⟨hp, he.2⟩
  ·rw [updN_other _ _ e]
   exact ⟨hp, he.2⟩
end
theorem ct_own {w0 w1 w2 w3 : World} {x n c : Nat} {na : Option Addr} {v : Value} {k : Nat} {g : Nat → Nc} (hx : x = w0.heap.size) (h1 : w1 = (w0.alloc (.cells #[.slice na n c] 26 (0, 0))).alloc (.cells #[.slice none 0 0] 26 (0, 0)))
  (hO : OwN w2 v k g) (hg : ∀ j, v.ownBlock = some j → w1.heap.size ≤ j) (hb : Below w1.heap.size w1 w2) (h3 : w3 = w2.alloc (.cells #[v] 26 (0, 0))) : CtI w0 x (x + 1) w2.heap.size (.slice na n c) (.slice none 0 0) k v g w3 := by
 obtain ⟨wa, ha⟩ : ∃ wa, wa = w0.alloc (.cells #[.slice na n c] 26 (0, 0)) := ⟨_, rfl⟩
 rw [← ha] at h1
 have s1 : wa.heap.size = x + 1 := by rw [ha, hx]; simp
 have s2 : w1.heap.size = x + 2 := by rw [h1]; simp [s1]
 have ba : Below w0.heap.size w0 wa := by rw [ha]; exact (Below.refl _ _).alloc (Nat.le_refl _) _
 have b1 : Below wa.heap.size wa w1 := by rw [h1]; exact (Below.refl _ _).alloc (Nat.le_refl _) _
 have b3 : Below w2.heap.size w2 w3 := by rw [h3]; exact (Below.refl _ _).alloc (Nat.le_refl _) _
 have t1 : TrB w1 x (.slice na n c) := by
  have : TrB wa x (.slice na n c) := by rw [ha, hx]; exact heap_alloc_new w0 _
  exact (b1.block _ (lt_of_block this)).trans this
 have t2 : TrB w1 (x + 1) (.slice none 0 0) := by rw [h1, ← s1]; exact heap_alloc_new wa _
 have t3 : TrB w3 w2.heap.size v := by rw [h3]; exact heap_alloc_new w2 _
 have hs := hb.size
 refine ⟨ba.trans ((b1.mono ba.size).trans ((hb.mono (by omega)).trans (b3.mono (by omega)))), (b3.block _ (by omega)).trans ((hb.block _ (lt_of_block t1)).trans t1), (b3.block _ (by omega)).trans ((hb.block _ (lt_of_block t2)).trans t2), t3, hO.next b3, fun j hj => ?_, by omega, by omega, by omega, by omega, by omega⟩
 have e1 := hg j hj
 have e2 := hO.lt j hj
 exact ⟨by omega, by omega, by omega, by omega⟩
theorem CtI.put {w0 wr w' : World} {x x2 x3 i gb n cg : Nat} {bx z2 : Value} {g g' : Nat → Nc} (h : CtI w0 x x2 x3 bx z2 i (.slice (some ⟨gb, 0, none⟩) n cg) g wr) (hO : OwN w' (.slice (some ⟨gb, 0, none⟩) n cg) i g') (hT : Turn (· = gb) wr w') : CtI w0 x x2 x3 bx z2 i (.slice (some ⟨gb, 0, none⟩) n cg) g' w' := by
 obtain ⟨g1, g2, g3, g4⟩ := h.ge gb rfl
 exact ⟨h.bel.trans (hT.below h.bel.size fun k e => by omega), (hT.block x (lt_of_block h.box) (fun e => g2 e.symm)).trans h.box, (hT.block x2 (lt_of_block h.res) (fun e => g3 e.symm)).trans h.res, (hT.block x3 (lt_of_block h.out) (fun e => g4 e.symm)).trans h.out, hO, h.ge, h.ne⟩
theorem CtI.fin {w0 wr : World} {x x2 x3 i : Nat} {bx v : Value} {g : Nat → Nc} (h : CtI w0 x x2 x3 bx (.slice none 0 0) i v g wr) : OwN (wr.setCell ⟨x2, 0, none⟩ v) v i g ∧ TrB (wr.setCell ⟨x2, 0, none⟩ v) x2 v ∧ Below w0.heap.size w0 (wr.setCell ⟨x2, 0, none⟩ v) := by
 have hT : Turn (· = x2) wr (wr.setCell ⟨x2, 0, none⟩ v) := turn_set wr x2 0 _
 exact ⟨h.own.turnO h.res.odd hT (fun e => (h.ge _ e).2.2.1 rfl), TrB.set h.res _, h.bel.trans (hT.below h.bel.size fun k e => by rw [e]; exact h.ne.2.2.2.1)⟩
theorem putE_nd {f g : Nat → Nc} {n a k : Nat} {s : ByteArray} {x : Nc} (hL : ndL g n = ndL f n) (ha : a < n) (hx : x.nd = { (g a).nd with e := eput (g a).e ⟨s, (k : Int)⟩ }) : ndL (updN g a x) n = putE (ndL f n) a s k := by
 rw [ndL_upd, hL, hx]
 unfold putE Go.Proofs.YtinholnidchblaaGreatDoor.setE
 rw [← hL, nat_ndL ha]
 rfl
theorem cutE_nd {f g : Nat → Nc} {n a : Nat} {s : ByteArray} {x : Nc} (hL : ndL g n = ndL f n) (ha : a < n) (hx : x.nd = { (g a).nd with e := ecut (g a).e s }) : ndL (updN g a x) n = cutE (ndL f n) a s := by
 rw [ndL_upd, hL, hx]
 unfold cutE Go.Proofs.YtinholnidchblaaGreatDoor.setE
 rw [← hL, nat_ndL ha]
 rfl
section
variable {w : World} {n c : Nat} {na : Option Addr} {f : Nat → Nc}
theorem rputN_any (hN : Nds w na n f) (hn : n ≤ 1000) (hfew : ∀ i, i < n → (f i).dn ≤ 1000000 ∧ (f i).en ≤ 100000) (dir k : Nat) (hdir : dir < n) (s : ByteArray) :
  Calls Tryz.prog 114 #[.agg #[.slice na n c], .int .i64 dir, .string s, .int .i64 k] w (TreO w (putE (ndL f n) dir s k)) := by
 obtain ⟨x, hx⟩ : ∃ x, x = w.heap.size := ⟨_, rfl⟩
 obtain ⟨w1, hw1⟩ : ∃ w1, w1 = (w.alloc (.cells #[.slice na n c] 26 (0, 0))).alloc (.cells #[.slice none 0 0] 26 (0, 0)) := ⟨_, rfl⟩
 have hb1 : Below w.heap.size w w1 := by rw [hw1]; exact ((Below.refl _ _).alloc (Nat.le_refl _) _).alloc (by simp) _
 have hc := copyTree_any (c := c) (hN.next hb1) (by omega) (fun i hi => ⟨(hfew i hi).1, by have := (hfew i hi).2; omega⟩)
 have HX := qH hx
 have HW1 := qH hw1
 have HB1 := qH hb1
 have HF := qH hfew
 clear hb1 hfew hx hw1
 go_enter Tryz.func114, Tryz.ntmps114
 go_wp2_with fail
 rw [← HW1.out]
 refine hc.mono ?_
 rintro e w2 ⟨v, n2, g, rfl, hO, hL, hge, hb⟩
 obtain rfl : n2 = n := by have := congrArg List.length hL; rwa [ndL_len, ndL_len] at this
 rcases hO.form with ⟨_, h0⟩ | ⟨gb, cg, rfl⟩
 ·omega
 obtain ⟨w3, hw3⟩ : ∃ w3, w3 = w2.alloc (.cells #[.slice (some ⟨gb, 0, none⟩) n2 cg] 26 (0, 0)) := ⟨_, rfl⟩
 obtain ⟨x9, hx9⟩ : ∃ x9, x9 = w2.heap.size := ⟨_, rfl⟩
 have hI := ct_own HX.out HW1.out hO hge hb hw3
 rw [← hx9] at hI
 have HI := qH hI
 have HL := qH hL
 have HW3 := qH hw3
 have HX9 := qH hx9
 have HGE : Hid (w.heap.size ≤ gb) := qH (Nat.le_trans HB1.out.size (hge gb rfl))
 clear hc hO hge hb hw3 hx9 hI hL
 have hfe : (g dir).e = (f dir).e := by
  have h1 := congrArg (fun l => nat l dir) HL.out
  simp only [nat_ndL hdir] at h1
  exact congrArg Nd.e h1
 have HFE := qH hfe
 have hen : (g dir).en ≤ 100000 := by
  have h1 := (HI.out.own.ents dir hdir).1.ens.len
  have h2 := (hN.ents dir hdir).ens.len
  have h3 := (HF.out dir hdir).2
  rw [hfe] at h1
  omega
 have HEN := qH hen
 have d0 : (0 : Int) ≤ (dir : Int) := by omega
 have d1 : (dir : Int) < (n2 : Int) := by omega
 clear hfe hen
 go_wp2_with fail
 rw [← HW3.out, ← HX9.out, ← HX.out]
 clear HX HW1 HW3 HX9 HB1
 refine wp_region_held_drew (S := (fun w' => w'.cell? ⟨x9, 0, none⟩ = some (.slice (some ⟨gb, 0, none⟩) n2 cg))) (by kernel_rfl) ?_ (fun hHeld => ?_)
 ·exact HI.out.out.cell
 have hbd : Below w3.heap.size w3 w3.drew := below_drewN (Below.refl _ _) 1
 have HID := qH (HI.out.next hbd)
 obtain ⟨q0, q1, q2, q3⟩ := HID.out.own.cell hdir
 rw [Nat.zero_add] at q3
 clear q0 q1 q2
 have he := (HID.out.own.ents dir hdir).1
 have hp := rput_any (g dir).ea (g dir).en (g dir).ec (g dir).e ⟨s, (k : Int)⟩ _ he.ens HEN.out he.nil he.cap he.max
 unfold env at hp
 dsimp only at hp
 refine rgZ 0 ?_ rfl (.inl ⟨by rfl, fun w hSw => ?_⟩) ?_ (by kernel_rfl) (fun _ _ _ h => h) (by assumption)
 rotate_left
 ·(try dsimp only at hSw); go_simp; try with_reducible rfl
 simp only [Act.put, rg]
 refine rgZ 1 ?_ rfl (.inl ⟨by rfl, fun w hSw => ?_⟩) ?_ (by kernel_rfl) (fun _ _ _ h => h) (by assumption)
 rotate_left
 ·(try dsimp only at hSw); go_simp; try with_reducible rfl
 simp only [Act.put, rg]
 refine rgZ 2 ?_ rfl (.inl ⟨by rfl, fun w hSw => ?_⟩) ?_ (by kernel_rfl) (fun _ _ _ h => h) (by assumption)
 rotate_left
 ·(try dsimp only at hSw); go_simp; try with_reducible rfl
 simp only [Act.put, rg]
 refine rgZ 3 ?_ rfl (.inl ⟨by rfl, fun w hSw => ?_⟩) ?_ (by kernel_rfl) (fun _ _ _ h => h) (by assumption)
 rotate_left
 ·(try dsimp only at hSw); go_simp; try with_reducible rfl
 simp only [Act.put, rg]
 refine rgZ 4 ?_ rfl (.inl ⟨by rfl, fun w hSw => ?_⟩) ?_ (by kernel_rfl) (fun _ _ _ h => h) (by assumption)
 rotate_left
 ·(try dsimp only at hSw); go_simp; try with_reducible rfl
 simp only [Act.put, rg]
 refine rgZ 5 ?_ rfl (.inl ⟨by rfl, fun w hSw => ?_⟩) ?_ (by kernel_rfl) (fun _ _ _ h => h) (by assumption)
 rotate_left
 ·(try dsimp only at hSw); go_simp; try with_reducible rfl
 simp only [Act.put, rg]
 refine rgZ 6 ?_ rfl (.inl ⟨by rfl, fun w hSw => ?_⟩) ?_ (by kernel_rfl) (fun _ _ _ h => h) (by assumption)
 rotate_left
 ·(try dsimp only at hSw); go_simp; try with_reducible rfl
 simp only [Act.put, rg]
 refine rgZ 7 ?_ rfl (.inl ⟨by rfl, fun w hSw => ?_⟩) ?_ (by kernel_rfl) (fun _ _ _ h => h) (by assumption)
 rotate_left
 ·(try dsimp only at hSw); go_simp; try with_reducible rfl
 simp only [Act.put, rg]
 refine rgZ 9 ?_ rfl (.inl ⟨by rfl, fun w hSw => ?_⟩) ?_ (by kernel_rfl) (fun _ _ _ h => h) (by assumption)
 rotate_left
 ·(try dsimp only at hSw); go_simp; try with_reducible rfl
 simp only [Act.put, rg]
 refine rgZ 10 ?_ rfl (.inl ⟨by rfl, fun w hSw => ?_⟩) ?_ (by kernel_rfl) (fun _ _ _ h => h) (by assumption)
 rotate_left
 ·(try dsimp only at hSw); go_simp; try with_reducible rfl
 simp only [Act.put, rg]
 refine rgZ 11 ?_ rfl (.inl ⟨by rfl, fun w hSw => ?_⟩) ?_ (by kernel_rfl) (fun _ _ _ h => h) (by assumption)
 rotate_left
 ·(try dsimp only at hSw); go_simp; try with_reducible rfl
 simp only [Act.put, rg]
 refine rgC 8 rfl (by kernel_rfl) (fun K hK => ?_)
 simp only [rg4, rg5, rg6]
 go_simp
 go_wp2_with fail
 refine hK.out _ _ HID.out.out.cell (fun _ => ?_)
 clear hK K
 refine rgC 12 rfl (by kernel_rfl) (fun K hK => ?_)
 simp only [rg4, rg5, rg6]
 go_simp
 refine hp.mono ?_
 rintro e w5 ⟨vE, rfl, hOE, hb5⟩
 have HI5 := qH (HID.out.next hb5)
 obtain ⟨ae, ce, rfl, hPE, hlo⟩ := hOE.enz
 have HPE := qH hPE
 have HOFF : Hid (Off (eput (g dir).e ⟨s, (k : Int)⟩).length ae gb gb) := qH (fun h0 b off e => by
  have h1 := (hlo _ e).1
  simp only at h1
  have h2 := HID.out.own.lt gb rfl
  omega)
 clear hp hOE hb5 hlo he q3
 go_wp2_with fail
 refine hK.out _ _ HI5.out.out.cell (fun _ => ?_)
 clear hK K
 refine rgZ 13 ?_ rfl (.inl ⟨by rfl, fun w hSw => ?_⟩) ?_ (by kernel_rfl) (fun _ _ _ h => h) (by assumption)
 rotate_left
 ·(try dsimp only at hSw); go_simp; try with_reducible rfl
 simp only [Act.put, rg]
 refine rgZ 14 ?_ rfl (.inl ⟨by rfl, fun w hSw => ?_⟩) ?_ (by kernel_rfl) (fun _ _ _ h => h) (by assumption)
 rotate_left
 ·(try dsimp only at hSw); go_simp; try with_reducible rfl
 simp only [Act.put, rg]
 obtain ⟨q0, q1, q2, q3⟩ := HI5.out.own.cell hdir
 rw [Nat.zero_add] at q3
 have qf := HI5.out.own.freeJ (dir * 4 + 3)
 have ql := HI5.out.own.lt gb rfl
 obtain ⟨w6, hw6⟩ : ∃ w6, w6 = w5.setCell ⟨gb, dir * 4 + 3, none⟩ (.slice ae (eput (g dir).e ⟨s, (k : Int)⟩).length ce) := ⟨_, rfl⟩
 have hO6 := HI5.out.own.setE hdir HPE.out HOFF.out
 rw [Nat.zero_add, ← hw6] at hO6
 have hT6 : Turn (· = gb) w5 w6 := by rw [hw6]; exact turn_set w5 gb _ _
 have HI6 := qH (HI5.out.put hO6 hT6)
 have HW6 := qH hw6
 clear q0 q1 q2 hO6 hT6 hw6
 refine rgC 15 rfl (by kernel_rfl) (fun K hK => ?_)
 simp only [rg4, rg5, rg6]
 go_simp
 go_wp2_with fail
 rw [← HW6.out]
 refine hK.out _ _ HI6.out.out.cell (fun _ => ?_)
 clear hK K
 refine wpAnyH_done (by kernel_rfl) ?_ _
 have o1 := HI6.out.out.cell
 have o3 := HI6.out.out.load
 have r1 := HI6.out.res.cell
 have r2 := HI6.out.res.free 0
 have r3 := lt_of_block HI6.out.res
 have HFI := qH HI6.out.fin
 clear q3 qf ql
 go_wp2_with fail
 refine bodyPost_ret (res_c1 rfl _ _ ⟨x + 1, 0, none⟩ _ rfl (TrB.load HFI.out.2.1)) rfl ?_
 exact ⟨_, n2, _, rfl, HFI.out.1, putE_nd HL.out hdir rfl, fun j hj => (HI6.out.ge j hj).1, HFI.out.2.2⟩
theorem rcutN_any (hN : Nds w na n f) (hn : n ≤ 1000) (hfew : ∀ i, i < n → (f i).dn ≤ 1000000 ∧ (f i).en ≤ 100000) (dir : Nat) (hdir : dir < n) (s : ByteArray) :
  Calls Tryz.prog 115 #[.agg #[.slice na n c], .int .i64 dir, .string s] w (TreO w (cutE (ndL f n) dir s)) := by
 obtain ⟨x, hx⟩ : ∃ x, x = w.heap.size := ⟨_, rfl⟩
 obtain ⟨w1, hw1⟩ : ∃ w1, w1 = (w.alloc (.cells #[.slice na n c] 26 (0, 0))).alloc (.cells #[.slice none 0 0] 26 (0, 0)) := ⟨_, rfl⟩
 have hb1 : Below w.heap.size w w1 := by rw [hw1]; exact ((Below.refl _ _).alloc (Nat.le_refl _) _).alloc (by simp) _
 have hc := copyTree_any (c := c) (hN.next hb1) (by omega) (fun i hi => ⟨(hfew i hi).1, by have := (hfew i hi).2; omega⟩)
 have HX := qH hx
 have HW1 := qH hw1
 have HB1 := qH hb1
 have HF := qH hfew
 clear hb1 hfew hx hw1
 go_enter Tryz.func115, Tryz.ntmps115
 go_wp2_with fail
 rw [← HW1.out]
 refine hc.mono ?_
 rintro e w2 ⟨v, n2, g, rfl, hO, hL, hge, hb⟩
 obtain rfl : n2 = n := by have := congrArg List.length hL; rwa [ndL_len, ndL_len] at this
 rcases hO.form with ⟨_, h0⟩ | ⟨gb, cg, rfl⟩
 ·omega
 obtain ⟨w3, hw3⟩ : ∃ w3, w3 = w2.alloc (.cells #[.slice (some ⟨gb, 0, none⟩) n2 cg] 26 (0, 0)) := ⟨_, rfl⟩
 obtain ⟨x9, hx9⟩ : ∃ x9, x9 = w2.heap.size := ⟨_, rfl⟩
 have hI := ct_own HX.out HW1.out hO hge hb hw3
 rw [← hx9] at hI
 have HI := qH hI
 have HL := qH hL
 have HW3 := qH hw3
 have HX9 := qH hx9
 have HGE : Hid (w.heap.size ≤ gb) := qH (Nat.le_trans HB1.out.size (hge gb rfl))
 clear hc hO hge hb hw3 hx9 hI hL
 have hfe : (g dir).e = (f dir).e := by
  have h1 := congrArg (fun l => nat l dir) HL.out
  simp only [nat_ndL hdir] at h1
  exact congrArg Nd.e h1
 have HFE := qH hfe
 have hen : (g dir).en ≤ 100000 := by
  have h1 := (HI.out.own.ents dir hdir).1.ens.len
  have h2 := (hN.ents dir hdir).ens.len
  have h3 := (HF.out dir hdir).2
  rw [hfe] at h1
  omega
 have HEN := qH hen
 have d0 : (0 : Int) ≤ (dir : Int) := by omega
 have d1 : (dir : Int) < (n2 : Int) := by omega
 clear hfe hen
 go_wp2_with fail
 rw [← HW3.out, ← HX9.out, ← HX.out]
 clear HX HW1 HW3 HX9 HB1
 refine wp_region_held_drew (S := (fun w' => w'.cell? ⟨x9, 0, none⟩ = some (.slice (some ⟨gb, 0, none⟩) n2 cg))) (by kernel_rfl) ?_ (fun hHeld => ?_)
 ·exact HI.out.out.cell
 have hbd : Below w3.heap.size w3 w3.drew := below_drewN (Below.refl _ _) 1
 have HID := qH (HI.out.next hbd)
 obtain ⟨q0, q1, q2, q3⟩ := HID.out.own.cell hdir
 rw [Nat.zero_add] at q3
 clear q0 q1 q2
 have he := (HID.out.own.ents dir hdir).1
 have hp := rcut_any (g dir).ea (g dir).en (g dir).ec (g dir).e s _ he.ens HEN.out
 refine rgZ 0 ?_ rfl (.inl ⟨by rfl, fun w hSw => ?_⟩) ?_ (by kernel_rfl) (fun _ _ _ h => h) (by assumption)
 rotate_left
 ·(try dsimp only at hSw); go_simp; try with_reducible rfl
 simp only [Act.put, rg]
 refine rgZ 1 ?_ rfl (.inl ⟨by rfl, fun w hSw => ?_⟩) ?_ (by kernel_rfl) (fun _ _ _ h => h) (by assumption)
 rotate_left
 ·(try dsimp only at hSw); go_simp; try with_reducible rfl
 simp only [Act.put, rg]
 refine rgZ 2 ?_ rfl (.inl ⟨by rfl, fun w hSw => ?_⟩) ?_ (by kernel_rfl) (fun _ _ _ h => h) (by assumption)
 rotate_left
 ·(try dsimp only at hSw); go_simp; try with_reducible rfl
 simp only [Act.put, rg]
 refine rgZ 3 ?_ rfl (.inl ⟨by rfl, fun w hSw => ?_⟩) ?_ (by kernel_rfl) (fun _ _ _ h => h) (by assumption)
 rotate_left
 ·(try dsimp only at hSw); go_simp; try with_reducible rfl
 simp only [Act.put, rg]
 refine rgZ 4 ?_ rfl (.inl ⟨by rfl, fun w hSw => ?_⟩) ?_ (by kernel_rfl) (fun _ _ _ h => h) (by assumption)
 rotate_left
 ·(try dsimp only at hSw); go_simp; try with_reducible rfl
 simp only [Act.put, rg]
 refine rgZ 5 ?_ rfl (.inl ⟨by rfl, fun w hSw => ?_⟩) ?_ (by kernel_rfl) (fun _ _ _ h => h) (by assumption)
 rotate_left
 ·(try dsimp only at hSw); go_simp; try with_reducible rfl
 simp only [Act.put, rg]
 refine rgZ 6 ?_ rfl (.inl ⟨by rfl, fun w hSw => ?_⟩) ?_ (by kernel_rfl) (fun _ _ _ h => h) (by assumption)
 rotate_left
 ·(try dsimp only at hSw); go_simp; try with_reducible rfl
 simp only [Act.put, rg]
 refine rgZ 7 ?_ rfl (.inl ⟨by rfl, fun w hSw => ?_⟩) ?_ (by kernel_rfl) (fun _ _ _ h => h) (by assumption)
 rotate_left
 ·(try dsimp only at hSw); go_simp; try with_reducible rfl
 simp only [Act.put, rg]
 refine rgZ 9 ?_ rfl (.inl ⟨by rfl, fun w hSw => ?_⟩) ?_ (by kernel_rfl) (fun _ _ _ h => h) (by assumption)
 rotate_left
 ·(try dsimp only at hSw); go_simp; try with_reducible rfl
 simp only [Act.put, rg]
 refine rgC 8 rfl (by kernel_rfl) (fun K hK => ?_)
 simp only [rg4, rg5, rg6]
 go_simp
 go_wp2_with fail
 refine hK.out _ _ HID.out.out.cell (fun _ => ?_)
 clear hK K
 refine rgC 10 rfl (by kernel_rfl) (fun K hK => ?_)
 simp only [rg4, rg5, rg6]
 go_simp
 refine hp.mono ?_
 rintro e w5 ⟨vE, rfl, hOE, hb5⟩
 have HI5 := qH (HID.out.next hb5)
 obtain ⟨ae, ce, rfl, hPE, hlo⟩ := hOE.enz
 have HPE := qH hPE
 have HOFF : Hid (Off (ecut (g dir).e s).length ae gb gb) := qH (fun h0 b off e => by
  have h1 := (hlo _ e).1
  simp only at h1
  have h2 := HID.out.own.lt gb rfl
  omega)
 clear hp hOE hb5 hlo he q3
 go_wp2_with fail
 refine hK.out _ _ HI5.out.out.cell (fun _ => ?_)
 clear hK K
 refine rgZ 11 ?_ rfl (.inl ⟨by rfl, fun w hSw => ?_⟩) ?_ (by kernel_rfl) (fun _ _ _ h => h) (by assumption)
 rotate_left
 ·(try dsimp only at hSw); go_simp; try with_reducible rfl
 simp only [Act.put, rg]
 refine rgZ 12 ?_ rfl (.inl ⟨by rfl, fun w hSw => ?_⟩) ?_ (by kernel_rfl) (fun _ _ _ h => h) (by assumption)
 rotate_left
 ·(try dsimp only at hSw); go_simp; try with_reducible rfl
 simp only [Act.put, rg]
 obtain ⟨q0, q1, q2, q3⟩ := HI5.out.own.cell hdir
 rw [Nat.zero_add] at q3
 have qf := HI5.out.own.freeJ (dir * 4 + 3)
 have ql := HI5.out.own.lt gb rfl
 obtain ⟨w6, hw6⟩ : ∃ w6, w6 = w5.setCell ⟨gb, dir * 4 + 3, none⟩ (.slice ae (ecut (g dir).e s).length ce) := ⟨_, rfl⟩
 have hO6 := HI5.out.own.setE hdir HPE.out HOFF.out
 rw [Nat.zero_add, ← hw6] at hO6
 have hT6 : Turn (· = gb) w5 w6 := by rw [hw6]; exact turn_set w5 gb _ _
 have HI6 := qH (HI5.out.put hO6 hT6)
 have HW6 := qH hw6
 clear q0 q1 q2 hO6 hT6 hw6
 refine rgC 13 rfl (by kernel_rfl) (fun K hK => ?_)
 simp only [rg4, rg5, rg6]
 go_simp
 go_wp2_with fail
 rw [← HW6.out]
 refine hK.out _ _ HI6.out.out.cell (fun _ => ?_)
 clear hK K
 refine wpAnyH_done (by kernel_rfl) ?_ _
 have o1 := HI6.out.out.cell
 have o3 := HI6.out.out.load
 have r1 := HI6.out.res.cell
 have r2 := HI6.out.res.free 0
 have r3 := lt_of_block HI6.out.res
 have HFI := qH HI6.out.fin
 clear q3 qf ql
 go_wp2_with fail
 refine bodyPost_ret (res_c1 rfl _ _ ⟨x + 1, 0, none⟩ _ rfl (TrB.load HFI.out.2.1)) rfl ?_
 exact ⟨_, n2, _, rfl, HFI.out.1, cutE_nd HL.out hdir rfl, fun j hj => (HI6.out.ge j hj).1, HFI.out.2.2⟩
end
end Go.Proofs.YtinholnidchblaaGreatDoor
