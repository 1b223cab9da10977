import Derived.Test.YtinholnidchblaaGreatDoorQam
import Derived.Test.YtinholnidchblaaGreatDoorQag
set_option linter.unusedVariables false
set_option linter.unusedSimpArgs false
set_option maxRecDepth 100000
set_option maxHeartbeats 16000000
namespace Go.Proofs.YtinholnidchblaaGreatDoor
open Go.RowKit
def nodeV (x : Nc) : Value := .agg #[.int .i64 x.k, .int .i64 x.l, .slice x.da x.dn x.dc, .slice x.ea x.en x.ec]
section
variable {w : World} {wb n c : Nat} {na : Option Addr} {f : Nat → Nc}
theorem isWrong_any (h : Wr w wb na n c f) (hn : n ≤ 1000000) (x : Nc) (hE : Ens w x.ea x.en x.e) (hd : x.d.length = x.dn) (hm : x.en ≤ 1000000) :
  Calls Tryz.prog 49 #[.pointer (some ⟨wb, 0, none⟩), nodeV x] w fun e w' => e = .returned (.bool (wrongB n x.nd)) ∧ Below w.heap.size w w' := by
 obtain ⟨k, l, da, dn, dc, d, ea, en, ec, E⟩ := x
 unfold nodeV Nc.nd
 simp only at hE hd hm ⊢
 obtain ⟨w1, hw1⟩ : ∃ w1, w1 = w.alloc (.cells #[.int .i64 k, .int .i64 l, .slice da dn dc, .slice ea en ec] 54 (0, 0)) := ⟨_, rfl⟩
 obtain ⟨q, hq⟩ : ∃ q, q = w.heap.size := ⟨_, rfl⟩
 have hb1 : Below w.heap.size w w1 := by rw [hw1]; exact (Below.refl _ _).alloc (Nat.le_refl _) _
 have hcc : NdB1 w1 q #[.int .i64 k, .int .i64 l, .slice da dn dc, .slice ea en ec] := by rw [hw1, hq]; exact heap_alloc_new w _
 obtain ⟨c0, c1, c2, c3⟩ := hcc.cells
 have hae := areEntries_any (h.next hb1) hn (k := ec) (hE.next hb1) hm
 have HB1 := qH hb1
 have hl := hE.len
 have hsE : Hid (wrongB n ⟨k, l, d, E⟩ = if k = 1 then decide (0 < E.length) || decide (46368 < d.length) else if k = 2 then decide (0 < d.length) || !(rgt E && !(E.any fun y => decide ((n : Int) ≤ y.i))) else true) := qH rfl
 rw [hl, hd] at hsE
 clear h hE hb1 hcc
 by_cases h1 : k = 1
 ·have HS : Hid (wrongB n ⟨k, l, d, E⟩ = (decide (0 < en) || decide (46368 < dn))) := qH (by rw [hsE.out, if_pos h1])
  clear hsE hae
  subst h1
  by_cases h2 : 0 < en
  ·have g0 : (0 : Int) < (en : Int) := by omega
   have HG : Hid ((decide (0 < en) || decide (46368 < dn)) = true) := qH (by rw [decide_eq_true h2]; rfl); clear h2
   go_enter Tryz.func49, Tryz.ntmps49
   go_wp2_with fail; go_ret
   exact ⟨by rw [HS.out, HG.out]; rfl, by rw [← hw1]; exact HB1.out⟩
  ·obtain rfl : en = 0 := by omega
   by_cases h3 : 46368 < dn
   ·have g1 : (46368 : Int) < (dn : Int) := by omega
    have HG : Hid ((decide (0 < 0) || decide (46368 < dn)) = true) := qH (by rw [decide_eq_true h3, Bool.or_true]); clear h2 h3
    go_enter Tryz.func49, Tryz.ntmps49
    go_wp2_with fail; go_ret
    exact ⟨by rw [HS.out, HG.out]; rfl, by rw [← hw1]; exact HB1.out⟩
   ·have g1 : ¬ (46368 : Int) < (dn : Int) := by omega
    have HG : Hid ((decide (0 < 0) || decide (46368 < dn)) = false) := qH (by rw [decide_eq_false h3]; rfl); clear h2 h3
    go_enter Tryz.func49, Tryz.ntmps49
    go_wp2_with fail; go_ret
    exact ⟨by rw [HS.out, HG.out]; rfl, by rw [← hw1]; exact HB1.out⟩
 ·by_cases h2 : k = 2
  ·have HS : Hid (wrongB n ⟨k, l, d, E⟩ = (decide (0 < dn) || !(rgt E && !(E.any fun y => decide ((n : Int) ≤ y.i))))) := qH (by rw [hsE.out, if_neg h1, if_pos h2])
   clear hsE; subst h2; clear h1
   by_cases h3 : 0 < dn
   ·have g0 : (0 : Int) < (dn : Int) := by omega
    have HG : Hid ((decide (0 < dn) || !(rgt E && !(E.any fun y => decide ((n : Int) ≤ y.i)))) = true) := qH (by rw [decide_eq_true h3]; rfl); clear h3 hae
    go_enter Tryz.func49, Tryz.ntmps49
    go_wp2_with fail; go_ret
    exact ⟨by rw [HS.out, HG.out]; rfl, by rw [← hw1]; exact HB1.out⟩
   ·obtain rfl : dn = 0 := by omega
    obtain ⟨ok, hok⟩ : ∃ ok, ok = (rgt E && !(E.any fun y => decide ((n : Int) ≤ y.i))) := ⟨_, rfl⟩
    rw [← hok] at hae; have HG : Hid ((decide (0 < 0) || !(rgt E && !(E.any fun y => decide ((n : Int) ≤ y.i)))) = !ok) := qH (by rw [hok]; rfl); clear h3 hok
    go_enter Tryz.func49, Tryz.ntmps49
    go_wp2_with fail; rw [← hw1, ← hq]; clear hw1 hq; go_wp2_with fail; refine hae.mono ?_; rintro e w2 ⟨rfl, hb2⟩; have HB2 := qH (HB1.out.trans (hb2.mono HB1.out.size)); clear hb2 hae; go_wp2_with fail; go_ret
    exact ⟨by rw [HS.out, HG.out]; rfl, HB2.out⟩
  ·have HS : Hid (wrongB n ⟨k, l, d, E⟩ = true) := qH (by rw [hsE.out, if_neg h1, if_neg h2])
   clear hsE hae
   go_enter Tryz.func49, Tryz.ntmps49
   go_wp2_with fail; go_ret
   exact ⟨by rw [HS.out]; rfl, by rw [← hw1]; exact HB1.out⟩
end
def GivesN (g : FuncId) (fs : Array Value) (p : Nd → Bool) (n : Nat) (f : Nat → Nc) (w0 : World) : Prop :=
 ∀ (i : Nat) (w : World), i < n → Below w0.heap.size w0 w → Calls Tryz.prog g (fs ++ #[nodeV (f i)]) w fun e w' => e = .returned (.bool (p (f i).nd)) ∧ Below w.heap.size w w'
def NoToN (p : Nd → Bool) (f : Nat → Nc) (k : Nat) : Prop := ∀ j, j < k → p (f j).nd = false
theorem NoToN.zero (p : Nd → Bool) (f : Nat → Nc) : NoToN p f 0 := fun j h => by omega
theorem NoToN.succ {p : Nd → Bool} {f : Nat → Nc} {k : Nat} (h : NoToN p f k) (e : p (f k).nd = false) : NoToN p f (k + 1) := fun j hj => by
 by_cases hk : j = k
 ·rw [hk]; exact e
 ·exact h j (by omega)
def IxN (p : Nd → Bool) (n : Nat) (f : Nat → Nc) (r : Int) : Prop := (r = -1 ∧ NoToN p f n) ∨ ∃ k : Nat, k < n ∧ r = (k : Int) ∧ p (f k).nd = true
theorem IxN.any {p : Nd → Bool} {n : Nat} {f : Nat → Nc} {r : Int} (h : IxN p n f r) : decide (0 ≤ r) = (ndL f n).any p := by
 rcases h with ⟨rfl, h⟩ | ⟨k, hk, rfl, e⟩
 ·symm
  rw [show decide ((0 : Int) ≤ -1) = false from rfl, List.any_eq_false]
  intro x hx
  obtain ⟨i, hi, rfl⟩ := List.mem_map.1 hx
  rw [h i (List.mem_range.1 hi)]
  decide
 ·symm
  rw [decide_eq_true (by omega), List.any_eq_true]
  exact ⟨(f k).nd, List.mem_map.2 ⟨k, List.mem_range.2 hk, rfl⟩, e⟩
theorem indexN_any (g : FuncId) (fs : Array Value) (eg : ∀ args w, (callFunc g args).run Tryz.prog w = .ok (.enter g args) w) (p : Nd → Bool) (w : World) (a : Option Addr) (n c : Nat) (f : Nat → Nc) (hg : GivesN g fs p n f w) (h : Nds w a n f) (hn : n ≤ 1000000) :
  Calls Tryz.prog 84 #[.slice a n c, .func (.func g) fs #[]] w fun e w' => ∃ r : Int, e = .returned (.int .i64 r) ∧ IxN p n f r ∧ Below w.heap.size w w' := by
 go_enter Tryz.func84, Tryz.ntmps84
 go_wp2_with fail
 go_loopw [5, 8] (fun _ v wr => ∃ k : Nat, k ≤ n ∧ v = .int .i64 k ∧ Below w.heap.size w wr ∧ NoToN p f k) (fun _ v _ => n - (RowKit.intOf v).toNat)
 case atStart => exact ⟨0, by omega, rfl, Below.refl _ _, NoToN.zero _ _⟩
 case round =>
  obtain ⟨k, hk, rfl, hB, hI⟩ := hrel
  have HI := qH hI
  have HB := qH hB
  by_cases hlt : k < n
  ·have k1 : (k : Int) < (n : Int) := by omega
   have k0 : (0 : Int) ≤ (k : Int) := by omega
   obtain ⟨b, off, rfl, hbl, d0, d1, d2, d3⟩ := (h.next hB).at hlt; have hcall := hg k wr hlt hB; unfold nodeV at hcall; clear h hB hI hg hbl
   cases hb : p (f k).nd with
   | false =>
    rw [hb] at hcall
    go_wp2_with (go_at_fn g; refine hcall.mono ?_; rintro e w' ⟨rfl, hb'⟩)
    have HB2 := qH (HB.out.trans (hb'.mono HB.out.size)); clear hb' hcall
    go_roundw
    case rel => exact ⟨k + 1, by omega, by go_num, HB2.out, HI.out.succ hb⟩
    case measure => simp [RowKit.intOf]; omega
   | true =>
    rw [hb] at hcall
    go_wp2_with (go_at_fn g; refine hcall.mono ?_; rintro e w' ⟨rfl, hb'⟩)
    have HB2 := qH (HB.out.trans (hb'.mono HB.out.size)); clear hb' hcall; go_ret
    exact ⟨k, rfl, .inr ⟨k, hlt, rfl, hb⟩, HB2.out⟩
  ·obtain rfl : k = n := by omega
   clear h hB hI hg; go_wp2_with fail; go_ret
   exact ⟨-1, rfl, .inl ⟨rfl, HI.out⟩, HB.out⟩
theorem containsN_any (g : FuncId) (fs : Array Value) (eg : ∀ args w, (callFunc g args).run Tryz.prog w = .ok (.enter g args) w) (p : Nd → Bool) (w : World) (a : Option Addr) (n c : Nat) (f : Nat → Nc) (hg : GivesN g fs p n f w) (h : Nds w a n f) (hn : n ≤ 1000000) :
  Calls Tryz.prog 48 #[.slice a n c, .func (.func g) fs #[]] w fun e w' => e = .returned (.bool ((ndL f n).any p)) ∧ Below w.heap.size w w' := by
 have hi := indexN_any g fs eg p w a n c f hg h hn
 clear hg h
 go_enter Tryz.func48, Tryz.ntmps48
 go_wp2_with fail
 refine hi.mono ?_
 rintro e w' ⟨r, rfl, hr, hb⟩
 have hr' := hr.any
 have HB := qH hb
 clear hr hb hi
 go_wp2_with fail
 go_ret
 exact ⟨by rw [← hr']; rfl, HB.out⟩
theorem enters_49 (args : Array Value) (w : World) : (callFunc 49 args).run Tryz.prog w = .ok (.enter 49 args) w := enters_of (P := Tryz.prog) Tryz.func49 (by kernel_rfl) rfl args w
theorem gives_49 {w : World} {wb n c : Nat} {na : Option Addr} {f : Nat → Nc} (h : Wr w wb na n c f) (hn : n ≤ 1000000) (hm : ∀ i, i < n → (f i).en ≤ 1000000) :
  GivesN 49 #[.pointer (some ⟨wb, 0, none⟩)] (wrongB n) n f w := fun i w' hi hb =>
 isWrong_any (h.next hb) hn (f i) ((h.next hb).nds.ents i hi).ens ((h.next hb).nds.data i hi).bys.len (hm i hi)
section
variable {w : World} {wb pb eb n c : Nat} {na : Option Addr} {f : Nat → Nc}
theorem isInOrder_any (h : Mtd w wb pb eb na n c f) (hok : EntOk n f) {a : Nat} (ha : a < n) :
  Calls Tryz.prog 51 #[.pointer (some ⟨wb, 0, none⟩), .int .i64 a] w fun e w' => e = .returned (.bool (inOrd (ndL f n) a)) ∧ Below w.heap.size w w' := by
 have hn := hok.1
 have c1 := h.wk.c1
 have hlk := h.pl.ok (a := a) (by omega)
 have H := qH h
 have HOK := qH hok
 by_cases hm : a ∈ met (chs (ndL f n))
 ·rw [if_pos hm, decide_eq_true hm] at hlk
  obtain ⟨ix, hix⟩ : ∃ ix, ix = (met (chs (ndL f n))).idxOf a := ⟨_, rfl⟩
  rw [← hix] at hlk
  by_cases he : (ix : Int) = (a : Int)
  ·have hixa : ix = a := by omega
   clear he; subst hixa; have hlc := links_any (h.next (below_drewN (Below.refl _ _) 1)) hok ha
   have HP : Hid (inOrd (ndL f n) ix = (decide (lnkM (ndL f n) ix = (f ix).l) && (if isD (f ix).nd then decide (ix = 0) || decide (cntE (chs (ndL f n)) (met (chs (ndL f n))) ix = 1) else decide (cntE (chs (ndL f n)) (met (chs (ndL f n))) ix ≤ 200)))) := qH (by
    have e1 : plc (chs (ndL f n)) ix = ix := hix.symm; unfold inOrd; rw [decide_eq_true hm, decide_eq_true e1, nat_ndL ha]
    rfl)
   have HA := qH ha; have HB0 : Hid (Below w.heap.size w (w.drewN 1)) := qH (below_drewN (Below.refl _ _) 1); have c0 := h.wk.c0; obtain ⟨b, off, rfl, hbl, d0, d1, d2, d3⟩ := h.nds.at ha
   have k0 : (0 : Int) ≤ (ix : Int) := by omega
   have k1 : (ix : Int) < (n : Int) := by omega
   have HBL := qH hbl; have D1 := qH d1; have C0 := qH c0; have hwl := h.wk.lt; have HWL := qH hwl; clear h hok hm hix ha d0 d2 d3 hwl hbl
   go_enter Tryz.func51, Tryz.ntmps51
   go_wp2_with fail; refine wp_region_held_drew (S := (fun w' => w'.cell? ⟨wb, 0, none⟩ = some (.slice (some ⟨b, off, none⟩) n c) ∧ w'.cell? ⟨b, off + ix * 4 + 1, none⟩ = some (.int .i64 (f ix).l))) (by kernel_rfl) ?_ (fun hHeld => ?_)
   ·exact ⟨c0, d1⟩
   refine rgZ 0 ?_ rfl (.inl ⟨by rfl, fun w hSw => ?_⟩) ?_ (by kernel_rfl) (fun _ _ _ h => h) (by assumption); rotate_left
   ·(try dsimp only at hSw); go_simp; try with_reducible rfl
   simp only [Act.put, rg]; refine rgZ 1 ?_ rfl (.inl ⟨by rfl, fun w hSw => ?_⟩) ?_ (by kernel_rfl) (fun _ _ _ h => h) (by assumption); rotate_left
   ·(try dsimp only at hSw); go_simp; try with_reducible rfl
   simp only [Act.put, rg]; refine rgZ 2 ?_ rfl (.inl ⟨by rfl, fun w hSw => ?_⟩) ?_ (by kernel_rfl) (fun _ _ _ h => h) (by assumption); rotate_left
   ·(try dsimp only at hSw); go_simp; try with_reducible rfl
   simp only [Act.put, rg]; refine rgZ 3 ?_ rfl (.inl ⟨by rfl, fun w hSw => ?_⟩) ?_ (by kernel_rfl) (fun _ _ _ h => h) (by assumption); rotate_left
   ·(try dsimp only at hSw); go_simp; try with_reducible rfl
   simp only [Act.put, rg]; refine rgZ 4 ?_ rfl (.inl ⟨by rfl, fun w hSw => ?_⟩) ?_ (by kernel_rfl) (fun _ _ _ h => h) (by assumption); rotate_left
   ·(try dsimp only at hSw); go_simp; try with_reducible rfl
   simp only [Act.put, rg]; refine rgZ 5 ?_ rfl (.inl ⟨by rfl, fun w hSw => ?_⟩) ?_ (by kernel_rfl) (fun _ _ _ h => h) (by assumption); rotate_left
   ·(try dsimp only at hSw); go_simp; try with_reducible rfl
   simp only [Act.put, rg]; refine rgZ 6 ?_ rfl (.inl ⟨by rfl, fun w hSw => ?_⟩) ?_ (by kernel_rfl) (fun _ _ _ h => h) (by assumption); rotate_left
   ·(try dsimp only at hSw); go_simp; try with_reducible rfl
   simp only [Act.put, rg]; refine rgZ 7 ?_ rfl (.inl ⟨by rfl, fun w hSw => ?_⟩) ?_ (by kernel_rfl) (fun _ _ _ h => h) (by assumption); rotate_left
   ·(try dsimp only at hSw); go_simp; try with_reducible rfl
   simp only [Act.put, rg]; refine rgZ 8 ?_ rfl (.inl ⟨by rfl, fun w hSw => ?_⟩) ?_ (by kernel_rfl) (fun _ _ _ h => h) (by assumption); rotate_left
   ·(try dsimp only at hSw); go_simp; try with_reducible rfl
   simp only [Act.put, rg]; refine rgZ 9 ?_ rfl (.inl ⟨by rfl, fun w hSw => ?_⟩) ?_ (by kernel_rfl) (fun _ _ _ h => h) (by assumption); rotate_left
   ·(try dsimp only at hSw); go_simp; try with_reducible rfl
   simp only [Act.put, rg]; refine rgZ 10 ?_ rfl (.inl ⟨by rfl, fun w hSw => ?_⟩) ?_ (by kernel_rfl) (fun _ _ _ h => h) (by assumption); rotate_left
   ·(try dsimp only at hSw); go_simp; try with_reducible rfl
   simp only [Act.put, rg]; refine rgZ 11 ?_ rfl (.inl ⟨by rfl, fun w hSw => ?_⟩) ?_ (by kernel_rfl) (fun _ _ _ h => h) (by assumption); rotate_left
   ·(try dsimp only at hSw); go_simp; try with_reducible rfl
   simp only [Act.put, rg]; refine rgZ 12 ?_ rfl (.inl ⟨by rfl, fun w hSw => ?_⟩) ?_ (by kernel_rfl) (fun _ _ _ h => h) (by assumption); rotate_left
   ·(try dsimp only at hSw); go_simp; try with_reducible rfl
   simp only [Act.put, rg]; refine rgZ 13 ?_ rfl (.inl ⟨by rfl, fun w hSw => ?_⟩) ?_ (by kernel_rfl) (fun _ _ _ h => h) (by assumption); rotate_left
   ·(try dsimp only at hSw); go_simp; try with_reducible rfl
   simp only [Act.put, rg]; refine rgZ 14 ?_ rfl (.inl ⟨by rfl, fun w hSw => ?_⟩) ?_ (by kernel_rfl) (fun _ _ _ h => h) (by assumption); rotate_left
   ·(try dsimp only at hSw); go_simp; try with_reducible rfl
   simp only [Act.put, rg]; refine rgZ 15 ?_ rfl (.inl ⟨by rfl, fun w hSw => ?_⟩) ?_ (by kernel_rfl) (fun _ _ _ h => h) (by assumption); rotate_left
   ·(try dsimp only at hSw); go_simp; try with_reducible rfl
   simp only [Act.put, rg]; refine rgZ 16 ?_ rfl (.inl ⟨by rfl, fun w hSw => ?_⟩) ?_ (by kernel_rfl) (fun _ _ _ h => h) (by assumption); rotate_left
   ·(try dsimp only at hSw); go_simp; try with_reducible rfl
   simp only [Act.put, rg]; refine rgZ 17 ?_ rfl (.inl ⟨by rfl, fun w hSw => ?_⟩) ?_ (by kernel_rfl) (fun _ _ _ h => h) (by assumption); rotate_left
   ·(try dsimp only at hSw); go_simp; try with_reducible rfl
   simp only [Act.put, rg]; refine rgZ 18 ?_ rfl (.inl ⟨by rfl, fun w hSw => ?_⟩) ?_ (by kernel_rfl) (fun _ _ _ h => h) (by assumption); rotate_left
   ·(try dsimp only at hSw); go_simp; try with_reducible rfl
   simp only [Act.put, rg]; refine rgC 19 rfl (by kernel_rfl) (fun K hK => ?_); simp only [rg4, rg5, rg6]; go_simp; refine hlc.mono ?_; rintro e w2 ⟨rfl, hb2⟩; have c02 := (hb2.cell (p := ⟨wb, 0, none⟩) HWL.out).trans C0.out; have d12 := (hb2.cell (p := ⟨b, off + ix * 4 + 1, none⟩) HBL.out).trans D1.out; have HB2 := qH (HB0.out.trans (hb2.mono HB0.out.size)); have H2 := qH ((H.out.next HB0.out).next hb2); clear hlc hb2; go_wp2_with fail; refine hK.out _ _ ⟨c02, d12⟩ (fun _ => ?_); clear hK K; refine rgZ 20 ?_ rfl (.inl ⟨by rfl, fun w hSw => ?_⟩) ?_ (by kernel_rfl) (fun _ _ _ h => h) (by assumption); rotate_left
   ·(try dsimp only at hSw); go_simp; try with_reducible rfl
   simp only [Act.put, rg]; refine rgZ 21 ?_ rfl (.inl ⟨by rfl, fun w hSw => ?_⟩) ?_ (by kernel_rfl) (fun _ _ _ h => h) (by assumption); rotate_left
   ·(try dsimp only at hSw); go_simp; try with_reducible rfl
   simp only [Act.put, rg]; refine wpAnyH_done (by kernel_rfl) ?_ _; clear c02 d12 c0 d1 hlk c1 k0 k1
   by_cases hl : lnkM (ndL f n) ix = (f ix).l
   ·rw [decide_eq_true hl] at HP
    have hx : ((f ix).l != lnkM (ndL f n) ix) = false := by rw [hl]; simp
    rw [hx]; have hid := isDir_any H2.out.wr HA.out (by have := HOK.out.1; omega); clear hl hx
    cases hd : isD (f ix).nd with
    | true =>
     rw [hd] at hid HP; clear hd
     by_cases h0 : ix = 0
     ·have HQ : Hid (inOrd (ndL f n) ix = true) := qH (by rw [HP.out, decide_eq_true h0]; rfl)
      clear HP; subst h0; go_wp2_with fail; refine hid.mono ?_; rintro e w3 ⟨rfl, hb3⟩; have HB3 := qH (HB2.out.trans (hb3.mono HB2.out.size)); clear hid hb3; go_wp2_with fail; go_ret
      exact ⟨by rw [HQ.out]; rfl, HB3.out⟩
     ·have HQ : Hid (inOrd (ndL f n) ix = decide (cntE (chs (ndL f n)) (met (chs (ndL f n))) ix = 1)) := qH (by rw [HP.out, decide_eq_false h0]; rfl)
      clear HP
      have z0 : ¬ (ix : Int) = 0 := by omega
      have Z0 : Hid (((ix : Int) == 0) = false) := qH (by simpa using z0); clear h0; go_wp2_with fail; refine hid.mono ?_; rintro e w3 ⟨rfl, hb3⟩; have HB3 := qH (HB2.out.trans (hb3.mono HB2.out.size)); have h3 := H2.out.next hb3; have c23 := h3.wk.c2; obtain ⟨N, hE⟩ := h3.en; have hg := hE.get (a := ix) (by have := HA.out; have := HOK.out.1; omega)
      obtain ⟨K9, hK9⟩ : ∃ K9, K9 = cntE (chs (ndL f n)) (met (chs (ndL f n))) ix := ⟨_, rfl⟩
      rw [← hK9] at hg HQ; clear hid hb3 h3 hE hK9; go_wp2_with fail; go_ret; refine ⟨?_, HB3.out⟩; rw [HQ.out]; have e9 : decide ((K9 : Int) = 1) = decide (K9 = 1) := decide_eq_decide.2 (by omega); rw [← e9]; have z9 := Z0.out
      simp [z9]
      try rfl
    | false =>
     rw [hd] at hid HP; clear hd; have HQ : Hid (inOrd (ndL f n) ix = decide (cntE (chs (ndL f n)) (met (chs (ndL f n))) ix ≤ 200)) := qH (by rw [HP.out]; rfl); clear HP; go_wp2_with fail; refine hid.mono ?_; rintro e w3 ⟨rfl, hb3⟩; have HB3 := qH (HB2.out.trans (hb3.mono HB2.out.size)); have h3 := H2.out.next hb3; have c23 := h3.wk.c2; obtain ⟨N, hE⟩ := h3.en; have hg := hE.get (a := ix) (by have := HA.out; have := HOK.out.1; omega)
     obtain ⟨K9, hK9⟩ : ∃ K9, K9 = cntE (chs (ndL f n)) (met (chs (ndL f n))) ix := ⟨_, rfl⟩
     rw [← hK9] at hg HQ; clear hid hb3 h3 hE hK9; go_wp2_with fail; go_ret; refine ⟨?_, HB3.out⟩; rw [HQ.out]; have e9 : decide ((K9 : Int) ≤ 200) = decide (K9 ≤ 200) := decide_eq_decide.2 (by omega); rw [← e9]
     rfl
   ·have hx : ((f ix).l != lnkM (ndL f n) ix) = true := by simpa using fun e => hl e.symm
    rw [decide_eq_false hl, Bool.false_and] at HP; rw [hx]; clear hl hx; go_wp2_with fail; go_ret
    exact ⟨by rw [HP.out]; rfl, HB2.out⟩
  ·have hne : ((ix : Int) != (a : Int)) = true := by simpa using he
   have HR : Hid (inOrd (ndL f n) a = false) := qH (by unfold inOrd; rw [decide_eq_false (p := plc (chs (ndL f n)) a = a) (fun e => he (by rw [hix]; exact congrArg Int.ofNat e)), Bool.false_and, Bool.and_false]); clear h hok hm hix
   go_enter Tryz.func51, Tryz.ntmps51
   go_wp2_with fail; refine wp_region_held_drew (S := fun _ => True) (by kernel_rfl) trivial (fun _ => ?_); refine rgZ 0 ?_ rfl (.inl ⟨by rfl, fun w hSw => ?_⟩) ?_ (by kernel_rfl) (fun _ _ _ h => h) (by assumption); rotate_left
   ·(try dsimp only at hSw); go_simp; try with_reducible rfl
   simp only [Act.put, rg]; refine rgZ 1 ?_ rfl (.inl ⟨by rfl, fun w hSw => ?_⟩) ?_ (by kernel_rfl) (fun _ _ _ h => h) (by assumption); rotate_left
   ·(try dsimp only at hSw); go_simp; try with_reducible rfl
   simp only [Act.put, rg]; refine rgZ 2 ?_ rfl (.inl ⟨by rfl, fun w hSw => ?_⟩) ?_ (by kernel_rfl) (fun _ _ _ h => h) (by assumption); rotate_left
   ·(try dsimp only at hSw); go_simp; try with_reducible rfl
   simp only [Act.put, rg]; refine rgZ 3 ?_ rfl (.inl ⟨by rfl, fun w hSw => ?_⟩) ?_ (by kernel_rfl) (fun _ _ _ h => h) (by assumption); rotate_left
   ·(try dsimp only at hSw); go_simp; try with_reducible rfl
   simp only [Act.put, rg]; refine rgZ 4 ?_ rfl (.inl ⟨by rfl, fun w hSw => ?_⟩) ?_ (by kernel_rfl) (fun _ _ _ h => h) (by assumption); rotate_left
   ·(try dsimp only at hSw); go_simp; try with_reducible rfl
   simp only [Act.put, rg]; refine rgZ 5 ?_ rfl (.inl ⟨by rfl, fun w hSw => ?_⟩) ?_ (by kernel_rfl) (fun _ _ _ h => h) (by assumption); rotate_left
   ·(try dsimp only at hSw); go_simp; try with_reducible rfl
   simp only [Act.put, rg]; refine rgZ 6 ?_ rfl (.inl ⟨by rfl, fun w hSw => ?_⟩) ?_ (by kernel_rfl) (fun _ _ _ h => h) (by assumption); rotate_left
   ·(try dsimp only at hSw); go_simp; try with_reducible rfl
   simp only [Act.put, rg]; refine rgZ 7 ?_ rfl (.inl ⟨by rfl, fun w hSw => ?_⟩) ?_ (by kernel_rfl) (fun _ _ _ h => h) (by assumption); rotate_left
   ·(try dsimp only at hSw); go_simp; try with_reducible rfl
   simp only [Act.put, rg]; refine rgZ 8 undef rfl (.inr ⟨by rfl, rfl⟩) ?_ (by kernel_rfl) (fun _ _ _ h => h) (by assumption); simp only [Act.put, rg]; refine rgZ 9 undef rfl (.inr ⟨by rfl, rfl⟩) ?_ (by kernel_rfl) (fun _ _ _ h => h) (by assumption); simp only [Act.put, rg]; refine rgZ 10 undef rfl (.inr ⟨by rfl, rfl⟩) ?_ (by kernel_rfl) (fun _ _ _ h => h) (by assumption); simp only [Act.put, rg]; refine rgZ 11 undef rfl (.inr ⟨by rfl, rfl⟩) ?_ (by kernel_rfl) (fun _ _ _ h => h) (by assumption); simp only [Act.put, rg]; refine rgZ 12 undef rfl (.inr ⟨by rfl, rfl⟩) ?_ (by kernel_rfl) (fun _ _ _ h => h) (by assumption); simp only [Act.put, rg]; refine rgZ 13 undef rfl (.inr ⟨by rfl, rfl⟩) ?_ (by kernel_rfl) (fun _ _ _ h => h) (by assumption); simp only [Act.put, rg]; refine rgZ 14 undef rfl (.inr ⟨by rfl, rfl⟩) ?_ (by kernel_rfl) (fun _ _ _ h => h) (by assumption); simp only [Act.put, rg]; refine rgZ 15 undef rfl (.inr ⟨by rfl, rfl⟩) ?_ (by kernel_rfl) (fun _ _ _ h => h) (by assumption); simp only [Act.put, rg]; refine rgZ 16 undef rfl (.inr ⟨by rfl, rfl⟩) ?_ (by kernel_rfl) (fun _ _ _ h => h) (by assumption); simp only [Act.put, rg]; refine rgZ 17 undef rfl (.inr ⟨by rfl, rfl⟩) ?_ (by kernel_rfl) (fun _ _ _ h => h) (by assumption); simp only [Act.put, rg]; refine rgZ 18 undef rfl (.inr ⟨by rfl, rfl⟩) ?_ (by kernel_rfl) (fun _ _ _ h => h) (by assumption); simp only [Act.put, rg]; refine rgZ 19 undef rfl (.inr ⟨by rfl, rfl⟩) ?_ (by kernel_rfl) (fun _ _ _ h => h) (by assumption); simp only [Act.put, rg]; refine rgZ 20 undef rfl (.inr ⟨by rfl, rfl⟩) ?_ (by kernel_rfl) (fun _ _ _ h => h) (by assumption); simp only [Act.put, rg]; refine rgZ 21 ?_ rfl (.inl ⟨by rfl, fun w hSw => ?_⟩) ?_ (by kernel_rfl) (fun _ _ _ h => h) (by assumption); rotate_left
   ·(try dsimp only at hSw); go_simp; try with_reducible rfl
   simp only [Act.put, rg]; refine wpAnyH_done (by kernel_rfl) ?_ _; go_wp2_with fail; go_ret
   exact ⟨by rw [HR.out]; rfl, below_drewN (Below.refl _ _) 1⟩
 ·rw [if_neg hm, decide_eq_false hm] at hlk
  have HR : Hid (inOrd (ndL f n) a = false) := qH (by unfold inOrd; rw [decide_eq_false hm, Bool.false_and])
  clear h hok hm
  go_enter Tryz.func51, Tryz.ntmps51
  go_wp2_with fail
  refine wp_region_held_drew (S := fun _ => True) (by kernel_rfl) trivial (fun _ => ?_)
  refine rgZ 0 ?_ rfl (.inl ⟨by rfl, fun w hSw => ?_⟩) ?_ (by kernel_rfl) (fun _ _ _ h => h) (by assumption)
  rotate_left
  ·(try dsimp only at hSw); go_simp; try with_reducible rfl
  simp only [Act.put, rg]
  refine rgZ 1 ?_ rfl (.inl ⟨by rfl, fun w hSw => ?_⟩) ?_ (by kernel_rfl) (fun _ _ _ h => h) (by assumption)
  rotate_left
  ·(try dsimp only at hSw); go_simp; try with_reducible rfl
  simp only [Act.put, rg]
  refine rgZ 2 ?_ rfl (.inl ⟨by rfl, fun w hSw => ?_⟩) ?_ (by kernel_rfl) (fun _ _ _ h => h) (by assumption)
  rotate_left
  ·(try dsimp only at hSw); go_simp; try with_reducible rfl
  simp only [Act.put, rg]
  refine rgZ 3 undef rfl (.inr ⟨by rfl, rfl⟩) ?_ (by kernel_rfl) (fun _ _ _ h => h) (by assumption)
  simp only [Act.put, rg]
  refine rgZ 4 undef rfl (.inr ⟨by rfl, rfl⟩) ?_ (by kernel_rfl) (fun _ _ _ h => h) (by assumption)
  simp only [Act.put, rg]
  refine rgZ 5 undef rfl (.inr ⟨by rfl, rfl⟩) ?_ (by kernel_rfl) (fun _ _ _ h => h) (by assumption)
  simp only [Act.put, rg]
  refine rgZ 6 ?_ rfl (.inl ⟨by rfl, fun w hSw => ?_⟩) ?_ (by kernel_rfl) (fun _ _ _ h => h) (by assumption)
  rotate_left
  ·(try dsimp only at hSw); go_simp; try with_reducible rfl
  simp only [Act.put, rg]
  refine rgZ 7 ?_ rfl (.inl ⟨by rfl, fun w hSw => ?_⟩) ?_ (by kernel_rfl) (fun _ _ _ h => h) (by assumption)
  rotate_left
  ·(try dsimp only at hSw); go_simp; try with_reducible rfl
  simp only [Act.put, rg]
  refine rgZ 8 undef rfl (.inr ⟨by rfl, rfl⟩) ?_ (by kernel_rfl) (fun _ _ _ h => h) (by assumption)
  simp only [Act.put, rg]
  refine rgZ 9 undef rfl (.inr ⟨by rfl, rfl⟩) ?_ (by kernel_rfl) (fun _ _ _ h => h) (by assumption)
  simp only [Act.put, rg]
  refine rgZ 10 undef rfl (.inr ⟨by rfl, rfl⟩) ?_ (by kernel_rfl) (fun _ _ _ h => h) (by assumption)
  simp only [Act.put, rg]
  refine rgZ 11 undef rfl (.inr ⟨by rfl, rfl⟩) ?_ (by kernel_rfl) (fun _ _ _ h => h) (by assumption)
  simp only [Act.put, rg]
  refine rgZ 12 undef rfl (.inr ⟨by rfl, rfl⟩) ?_ (by kernel_rfl) (fun _ _ _ h => h) (by assumption)
  simp only [Act.put, rg]
  refine rgZ 13 undef rfl (.inr ⟨by rfl, rfl⟩) ?_ (by kernel_rfl) (fun _ _ _ h => h) (by assumption)
  simp only [Act.put, rg]
  refine rgZ 14 undef rfl (.inr ⟨by rfl, rfl⟩) ?_ (by kernel_rfl) (fun _ _ _ h => h) (by assumption)
  simp only [Act.put, rg]
  refine rgZ 15 undef rfl (.inr ⟨by rfl, rfl⟩) ?_ (by kernel_rfl) (fun _ _ _ h => h) (by assumption)
  simp only [Act.put, rg]
  refine rgZ 16 undef rfl (.inr ⟨by rfl, rfl⟩) ?_ (by kernel_rfl) (fun _ _ _ h => h) (by assumption)
  simp only [Act.put, rg]
  refine rgZ 17 undef rfl (.inr ⟨by rfl, rfl⟩) ?_ (by kernel_rfl) (fun _ _ _ h => h) (by assumption)
  simp only [Act.put, rg]
  refine rgZ 18 undef rfl (.inr ⟨by rfl, rfl⟩) ?_ (by kernel_rfl) (fun _ _ _ h => h) (by assumption)
  simp only [Act.put, rg]
  refine rgZ 19 undef rfl (.inr ⟨by rfl, rfl⟩) ?_ (by kernel_rfl) (fun _ _ _ h => h) (by assumption)
  simp only [Act.put, rg]
  refine rgZ 20 undef rfl (.inr ⟨by rfl, rfl⟩) ?_ (by kernel_rfl) (fun _ _ _ h => h) (by assumption)
  simp only [Act.put, rg]
  refine rgZ 21 ?_ rfl (.inl ⟨by rfl, fun w hSw => ?_⟩) ?_ (by kernel_rfl) (fun _ _ _ h => h) (by assumption)
  rotate_left
  ·(try dsimp only at hSw); go_simp; try with_reducible rfl
  simp only [Act.put, rg]
  refine wpAnyH_done (by kernel_rfl) ?_ _
  go_wp2_with fail
  go_ret
  exact ⟨by rw [HR.out]; rfl, below_drewN (Below.refl _ _) 1⟩
end
theorem allIn_succ {p : Nat → Bool} {k : Nat} (h : ∀ i, i < k → p i = true) (e : p k = true) : ∀ i, i < k + 1 → p i = true := fun i hi => by
 by_cases hk : i = k
 ·rw [hk]; exact e
 ·exact h i (by omega)
section
variable {w : World} {n c : Nat} {na : Option Addr} {f : Nat → Nc}
theorem right_any (h : Nds w na n f) (hn : n ≤ 1000000) (hm : ∀ i, i < n → (f i).en ≤ 1000000) :
  Calls Tryz.prog 27 #[.agg #[.slice na n c]] w fun e w' => e = .returned (.bool (rightB (ndL f n))) ∧ Below w.heap.size w w' := by
 have hmf : ∀ (fn : Fn) (first cap : Array Value) (w : World), (Instr.makeFunc fn first cap).run Tryz.prog w = .ok (.func fn first cap) w := fun _ _ _ _ => rfl
 have hfm : Hid (rightB (ndL f n) = (decide (1 ≤ n) && (decide (n ≤ 56) && (isD (nat (ndL f n) 0) && (!((ndL f n).any (wrongB n)) && (List.range n).all (inOrd (ndL f n))))))) := qH (by
  have := right_form (L := ndL f n)
  rwa [ndL_len] at this)
 by_cases h1 : n < 1
 ·obtain rfl : n = 0 := by omega
  have HR : Hid (rightB (ndL f 0) = false) := qH (by rw [hfm.out]; rfl)
  clear h hm hfm
  go_enter Tryz.func27, Tryz.ntmps27
  go_wp2_with fail
  go_ret
  exact ⟨by rw [HR.out]; rfl, (Below.refl _ _).alloc (Nat.le_refl _) _⟩
 have k1 : ¬ (n : Int) < 1 := by omega
 by_cases h2 : 56 < n
 ·have HR : Hid (rightB (ndL f n) = false) := qH (by rw [hfm.out, decide_eq_false (by omega : ¬ n ≤ 56), Bool.false_and, Bool.and_false])
  have k2 : (56 : Int) < (n : Int) := by omega
  clear h hm hfm h1 h2
  go_enter Tryz.func27, Tryz.ntmps27
  go_wp2_with fail
  go_ret
  exact ⟨by rw [HR.out]; rfl, (Below.refl _ _).alloc (Nat.le_refl _) _⟩
 have k2 : ¬ (56 : Int) < (n : Int) := by omega
 rw [decide_eq_true (by omega : 1 ≤ n), decide_eq_true (by omega : n ≤ 56), nat_ndL (show 0 < n by omega)] at hfm
 have HN := qH (And.intro (Nat.le_of_not_lt h1) (Nat.le_of_not_lt h2))
 have k0 : (0 : Int) < (n : Int) := by omega
 obtain ⟨b, off, rfl, hbl, d0, d1, d2, d3⟩ := h.at (show 0 < n by omega)
 have e0 : off + 0 * 4 = off := by omega
 rw [e0] at d0
 have hb0 : ∀ o, (w.alloc o).cell? ⟨b, off, none⟩ = some (.int .i64 (f 0).k) := fun o => (((Below.refl w.heap.size w).alloc (Nat.le_refl _) o).cell (p := ⟨b, off, none⟩) hbl).trans d0
 have HH := qH h
 have HM := qH hm
 by_cases h3 : (f 0).k = 2
 ·have hd : isD (f 0).nd = true := by
   have : isD (f 0).nd = ((f 0).k == 2) := rfl; rw [this, h3]; rfl
  rw [hd] at hfm
  obtain ⟨wb, hwb⟩ : ∃ wb, wb = w.heap.size + 1 := ⟨_, rfl⟩
  obtain ⟨w1, hw1⟩ : ∃ w1, w1 = (w.alloc (.cells #[.slice (some ⟨b, off, none⟩) n c] 26 (0, 0))).alloc (.cells #[.slice (some ⟨b, off, none⟩) n c, .map none, .map none] 81 (0, 0)) := ⟨_, rfl⟩
  have hb1 : Below w.heap.size w w1 := by rw [hw1]; exact ((Below.refl _ _).alloc (Nat.le_refl _) _).alloc (by simp) _
  have hwk : WkB w1 wb (some ⟨b, off, none⟩) n c none none := by
   rw [hw1, hwb]; have := heap_alloc_new (w.alloc (.cells #[.slice (some ⟨b, off, none⟩) n c] 26 (0, 0))) (.cells #[.slice (some ⟨b, off, none⟩) n c, .map none, .map none] 81 (0, 0))
   simpa [WkB] using this
  have hwr : Wr w1 wb (some ⟨b, off, none⟩) n c f := ⟨⟨_, _, hwk⟩, h.next hb1⟩
  have hct := containsN_any _ #[.pointer (some ⟨wb, 0, none⟩)] enters_49 _ w1 (some ⟨b, off, none⟩) n c f (gives_49 hwr hn hm) hwr.nds hn
  have HB1 := qH hb1
  have HWR := qH hwr
  have c0 := hwk.c0
  have HWB := qH hwb
  clear h hm hb1 hwk hwr d0 d1 d2 d3 hbl e0 h1 h2 hd
  cases hx : (ndL f n).any (wrongB n) with
  | true =>
   have HR : Hid (rightB (ndL f n) = false) := qH (by rw [hfm.out, hx]; rfl); rw [hx] at hct; clear hx hfm
   go_enter Tryz.func27, Tryz.ntmps27
   go_wp2_with fail; rw [← hw1, ← hwb]; clear hw1 hwb; refine hct.mono ?_; rintro e w2 ⟨rfl, hb2⟩; have HB2 := qH (HB1.out.trans (hb2.mono HB1.out.size)); clear hct hb2; go_wp2_with fail; go_ret
   exact ⟨by rw [HR.out]; rfl, HB2.out⟩
  | false =>
   have HR : Hid (rightB (ndL f n) = (List.range n).all (inOrd (ndL f n))) := qH (by rw [hfm.out, hx]; rfl)
   have hok : EntOk n f := ⟨HN.out.2, fun i hi => by
    rw [List.any_eq_false] at hx; have h5 : (f i).nd ∈ ndL f n := List.mem_map.2 ⟨i, List.mem_range.2 hi, rfl⟩; have h6 := hx _ h5
    rcases (wrongB_iff HN.out.2).1 (by simpa using h6) with h7 | h7
    ·have h8 : (f i).e = [] := h7.2.1
     rw [h8]
     exact ⟨by simp, fun y hy => by cases hy⟩
    ·refine ⟨h7.2.2.1, fun y hy => ?_⟩
     have := h7.2.2.2.1 y hy
     exact ⟨by omega, this.2.2⟩⟩
   have HOK := qH hok; rw [hx] at hct; clear hx hfm hok
   go_enter Tryz.func27, Tryz.ntmps27
   go_wp2_with fail; rw [← hw1, ← hwb]; clear hw1 hwb; refine hct.mono ?_; rintro e w2 ⟨rfl, hb2⟩; have hma := meetAll_any (HWR.out.next hb2) HOK.out HN.out.1; have HB2 := qH (HB1.out.trans (hb2.mono HB1.out.size)); clear hct hb2; go_wp2_with fail; refine hma.mono ?_; rintro e w3 ⟨rfl, hT3, pb, eb, hwk3, hnds3, hpl3, hen3, hp1, hp2⟩
   have hmt : Mtd w3 wb pb eb (some ⟨b, off, none⟩) n c f := ⟨hwk3, hnds3, hpl3, hen3⟩
   have HB3 : Hid (Below w.heap.size w w3) := qH (HB2.out.trans (hT3.below HB2.out.size (fun k e => by have := HWB.out; omega))); have HMT := qH hmt; have c03 := hwk3.c0; clear hma hT3 hwk3 hnds3 hpl3 hen3 hp1 hp2 hmt; go_wp2_with fail
   go_loopw [4, 42] (fun _ v wr => ∃ k : Nat, k ≤ n ∧ v = .int .i64 k ∧ Below w3.heap.size w3 wr ∧ ∀ i, i < k → inOrd (ndL f n) i = true) (fun _ v _ => n - (RowKit.intOf v).toNat)
   case atStart => exact ⟨0, Nat.zero_le _, rfl, Below.refl _ _, fun i hi => by omega⟩
   case round =>
    obtain ⟨k, hk, rfl, hB, hI⟩ := hrel; have HI := qH hI; have HB := qH hB
    by_cases hlt : k < n
    ·have j1 : (k : Int) < (n : Int) := by omega
     have hio := isInOrder_any (HMT.out.next hB) HOK.out hlt; clear hB hI
     cases hb : inOrd (ndL f n) k with
     | true =>
      rw [hb] at hio; have HI2 := qH (allIn_succ HI.out hb); clear hb; go_wp2_with fail; refine hio.mono ?_; rintro e w5 ⟨rfl, hb5⟩; have HB5 := qH (HB.out.trans (hb5.mono HB.out.size)); clear hio hb5; go_wp2_with fail
      go_roundw
      case rel => exact ⟨k + 1, by omega, by go_num, HB5.out, HI2.out⟩
      case measure => simp [RowKit.intOf]; omega
     | false =>
      rw [hb] at hio
      have HF : Hid (rightB (ndL f n) = false) := qH (by
       rw [HR.out, List.all_eq_false]
       exact ⟨k, List.mem_range.2 hlt, by rw [hb]; decide⟩)
      clear hb; go_wp2_with fail; refine hio.mono ?_; rintro e w5 ⟨rfl, hb5⟩; have HB5 := qH (HB.out.trans (hb5.mono HB.out.size)); clear hio hb5; go_wp2_with fail; go_ret
      exact ⟨by rw [HF.out]; rfl, HB3.out.trans (HB5.out.mono HB3.out.size)⟩
    ·obtain rfl : k = n := by omega
     have HF : Hid (rightB (ndL f k) = true) := qH (by
      rw [HR.out, List.all_eq_true]
      exact fun i hi => HI.out i (List.mem_range.1 hi))
     clear hB hI; go_wp2_with fail; go_ret
     exact ⟨by rw [HF.out]; rfl, HB3.out.trans (HB.out.mono HB3.out.size)⟩
 ·have hd : isD (f 0).nd = false := by
   have : isD (f 0).nd = ((f 0).k == 2) := rfl; rw [this]; simpa using h3
  have HR : Hid (rightB (ndL f n) = false) := qH (by rw [hfm.out, hd]; rfl)
  clear h hm hfm h1 h2 hd d0 d1 d2 d3 hbl e0
  go_enter Tryz.func27, Tryz.ntmps27
  go_wp2_with fail
  go_ret
  exact ⟨by rw [HR.out]; rfl, (Below.refl _ _).alloc (Nat.le_refl _) _⟩
end
theorem rd_form {L : List Nd} {P : Option (List ByteArray)} {i m : Int} (h : (oRead L P i m).2.err = 0) : (oRead L P i m).2 = ⟨0, (oRead L P i m).2.d, [], 0, 0, 0⟩ := by
 unfold oRead at h ⊢
 split
 ·rename_i e he
  rw [he] at h
  exact absurd h (fileAt_err he)
 ·rename_i k hk
  rw [hk] at h
  simp only at h ⊢
  split at h
  ·cases h
  ·rename_i hc
   rw [if_neg hc]
theorem wr_form {L : List Nd} {P : Option (List ByteArray)} {i : Int} {zs : List Int} (h : (oWrite L P i zs).2.err = 0) : (oWrite L P i zs).2 = ⟨0, [], [], 0, 0, (oWrite L P i zs).2.sz⟩ := by
 unfold oWrite at h ⊢
 split
 ·rename_i e he
  rw [he] at h
  exact absurd h (fileAt_err he)
 ·rename_i k hk
  rw [hk] at h
  simp only at h ⊢
  split at h
  ·cases h
  ·rename_i hc
   rw [if_neg hc]
theorem findO_err {L : List Nd} {P : Option (List ByteArray)} {x : Int} (h : findO L P = .error x) : x ≠ 0 := by
 cases P with
 | none => cases h; decide
 | some ns => exact wlk_err0 h
theorem ask_err (o : Int) {L : List Nd} {P : Option (List ByteArray)} {x : Int} (h : findO L P = .error x) : oAsk L o P = .bad x ∧ x ≠ 0 := by
 refine ⟨?_, findO_err h⟩
 cases P with
 | none => cases h; rfl
 | some ns =>
  have h' : wlk L 0 ns = .error x := h
  unfold oAsk
  simp only
  rw [h']
theorem ask_stat {L : List Nd} {P : Option (List ByteArray)} {k : Nat} (h : findO L P = .ok k) : oAsk L 10 P = ⟨0, [], [], (nat L k).k, (nat L k).l, (((nat L k).d.length + (nat L k).e.length : Nat) : Int)⟩ := by
 cases P with
 | none => cases h
 | some ns =>
  have h' : wlk L 0 ns = .ok k := h
  unfold oAsk
  simp only
  rw [h']
  rfl
theorem ask_sync {L : List Nd} {P : Option (List ByteArray)} {k : Nat} (h : findO L P = .ok k) : oAsk L 13 P = .ok := by
 cases P with
 | none => cases h
 | some ns =>
  have h' : wlk L 0 ns = .ok k := h
  unfold oAsk
  simp only
  rw [h']
  rfl
theorem ask_list {L : List Nd} {P : Option (List ByteArray)} {k : Nat} (h : dirAtO L P = .ok k) : oAsk L 11 P = ⟨0, [], (nat L k).e.map (·.s), 0, 0, 0⟩ := by
 cases P with
 | none => cases h
 | some ns =>
  rw [dirAt_some] at h
  cases hw : wlk L 0 ns with
  | error x => rw [hw] at h; cases h
  | ok j =>
   rw [hw] at h; simp only at h
   split at h
   ·rename_i hd
    cases h
    unfold oAsk; simp only; rw [hw]; simp only [hd, if_true]
    rfl
   ·cases h
theorem ask_listE {L : List Nd} {P : Option (List ByteArray)} {x : Int} (h : dirAtO L P = .error x) : oAsk L 11 P = .bad x ∧ x ≠ 0 := by
 cases P with
 | none => cases h; exact ⟨rfl, by decide⟩
 | some ns =>
  rw [dirAt_some] at h
  cases hw : wlk L 0 ns with
  | error y =>
   rw [hw] at h
   cases h
   exact ask_err 11 hw
  | ok j =>
   rw [hw] at h; simp only at h
   split at h
   ·cases h
   ·rename_i hd
    cases h
    refine ⟨?_, by decide⟩; unfold oAsk; simp only; rw [hw]; simp only; rw [if_neg (by decide), if_pos (by decide), if_neg hd]
section
variable {w : World} {wb g n c : Nat} {f : Nat → Nc}
structure DoW (w w1 : World) (wb g n c H : Nat) (f : Nat → Nc) (o i m : Int) (p q : ByteArray) (da : Option Addr) (dn dc : Nat) (zs : List Int) : Prop where
 eq : w1 = (w.alloc (.cells #[.int .i64 o, .string p, .string q, .int .i64 i, .int .i64 m, .slice da dn dc] 31 (0, 0))).alloc (.cells #[.int .i64 0, .slice none 0 0, .slice none 0 0, .int .i64 0, .int .i64 0, .int .i64 0] 37 (0, 0))
 hH : H = w.heap.size + 1
 bel : Below w.heap.size w w1
 wo : Wo w1 wb g n c f
 res : RsB w1 H ResZ
 pin : Pin w1 da dn dc zs
 off : Off dn da g wb
theorem DoW.mk' (h : Wo w wb g n c f) (o i m : Int) (p q : ByteArray) (da : Option Addr) (dn dc : Nat) (zs : List Int) (hp : Pin w da dn dc zs) (ho : Off dn da g wb) :
  DoW w ((w.alloc (.cells #[.int .i64 o, .string p, .string q, .int .i64 i, .int .i64 m, .slice da dn dc] 31 (0, 0))).alloc (.cells #[.int .i64 0, .slice none 0 0, .slice none 0 0, .int .i64 0, .int .i64 0, .int .i64 0] 37 (0, 0))) wb g n c (w.heap.size + 1) f o i m p q da dn dc zs := by
 have hb : Below w.heap.size w ((w.alloc (.cells #[.int .i64 o, .string p, .string q, .int .i64 i, .int .i64 m, .slice da dn dc] 31 (0, 0))).alloc (.cells #[.int .i64 0, .slice none 0 0, .slice none 0 0, .int .i64 0, .int .i64 0, .int .i64 0] 37 (0, 0))) := ((Below.refl _ _).alloc (Nat.le_refl _) _).alloc (by simp) _
 refine ⟨rfl, rfl, hb, h.next hb, ?_, hp.next hb, ho⟩
 have := heap_alloc_new (w.alloc (.cells #[.int .i64 o, .string p, .string q, .int .i64 i, .int .i64 m, .slice da dn dc] 31 (0, 0))) (.cells #[.int .i64 0, .slice none 0 0, .slice none 0 0, .int .i64 0, .int .i64 0, .int .i64 0] 37 (0, 0))
 simpa [RsB, ResZ] using this
theorem DoW.resT {w w1 w2 : World} {H : Nat} {o i m : Int} {p q : ByteArray} {da : Option Addr} {dn dc : Nat} {zs : List Int} (h : DoW w w1 wb g n c H f o i m p q da dn dc zs) (ht : Turn (WM g wb) w1 w2) (hg : H ≠ g) (hw : H ≠ wb) : RsB w2 H ResZ :=
 (ht.block H h.res.lt fun e => e.elim hg hw).trans h.res
theorem DoW.ne {w w1 : World} {H : Nat} {o i m : Int} {p q : ByteArray} {da : Option Addr} {dn dc : Nat} {zs : List Int} (h : DoW w w1 wb g n c H f o i m p q da dn dc zs) (hg : g < w.heap.size) (hw : wb < w.heap.size) : H ≠ g ∧ H ≠ wb := by
 have := h.hH
 omega
theorem wdo_any (h : Wo w wb g n c f) (ht : Rgt (ndL f n)) (o i m : Int) (p q : ByteArray) (da : Option Addr) (dn dc : Nat) (zs : List Int) (hp : p.size < 4294967281) (hq : q.size < 4294967281)
  (hi : -9223372036854775808 ≤ i ∧ i ≤ 9223372036854775807) (hm : -9223372036854775808 ≤ m ∧ m ≤ 9223372036854775807) (hz : Pin w da dn dc zs) (hoff : Off dn da g wb) :
  Calls Tryz.prog 39 #[.pointer (some ⟨wb, 0, none⟩), .agg #[.int .i64 o, .string p, .string q, .int .i64 i, .int .i64 m, .slice da dn dc]] w (OpR w wb g (oAny (ndL f n) o (nms p) (nms q) i m zs)) := by
 obtain ⟨H, w1, hD⟩ : ∃ H w1, DoW w w1 wb g n c H f o i m p q da dn dc zs := ⟨_, _, .mk' h o i m p q da dn dc zs hz hoff⟩
 have HD := qH hD
 have HNE := qH (hD.ne (row_lt h.row) h.wr.lt)
 have HT0 := qH ht
 have HP := qH hp
 have HQ := qH hq
 have HI := qH hi
 have HM := qH hm
 obtain ⟨R, hR⟩ : ∃ R, R = oAny (ndL f n) o (nms p) (nms q) i m zs := ⟨_, rfl⟩
 rw [← hR]
 have HR := qH hR
 clear h ht hz hoff hD hR hp hq hi hm
 by_cases hk : o = 1
 ·subst hk
  have HRk := qH (show R = oNew (ndL f n) false (nms p) from HR.out)
  have hc := add_any HD.out.wo HT0.out p HP.out false 1 rfl
  go_enter Tryz.func39, Tryz.ntmps39
  go_wp2_with fail
  rw [← HD.out.eq, ← HD.out.hH]
  refine hc.mono ?_
  rintro e w2 h2
  clear hc
  rcases h2.cases with ⟨he, rfl, g', n', c', f', hW, hL, hT, hg⟩ | ⟨he, rfl, hT⟩
  ·have HRS := qH (HD.out.resT hT HNE.out.1 HNE.out.2)
   have HW := qH hW; have HL := qH hL; have HT := qH hT; have HG := qH hg; have HE := qH he; have HBD := qH (bad_new (ndL f n) false (nms p)); clear hW hL hT hg he h2; obtain ⟨x0, x1, x2, x3, x4, x5⟩ := HRS.out.cells; have g0 := HRS.out.free 0; have g1 := HRS.out.free 1; have g2 := HRS.out.free 2; have g3 := HRS.out.free 3; have g4 := HRS.out.free 4; have g5 := HRS.out.free 5; go_wp2_with fail
   have hok : R.2 = .ok := by rw [HRk.out, HBD.out, HE.out]; rfl
   have hfin := OpR.fin (H := H) (r := R) (da := none) (dn := 0) (dc := 0) (na := none) (nn := 0) (nc := 0) (Ls := []) (by rw [HD.out.hH]; exact Nat.le_succ _) HD.out.bel HT.out HRS.out (by rw [hok]; rfl) HW.out (by rw [HRk.out]; exact HL.out) HG.out (by rw [hok]; exact ⟨Pin.zero _, sts_nil _ _, rfl, fun _ => ⟨rfl, rfl⟩, Nat.le_refl _⟩); rw [hok] at hfin; refine bodyPost_ret (res_cell rfl _ _ ⟨H, 0, none⟩ _ rfl (HRS.out.set _ _ _ _ _ _).load) rfl ?_
   exact hfin
  ·go_wp2_with fail
   exact ⟨rfl, OpR.err HD.out.bel hT (by rw [HRk.out]) he⟩
 have hk1 := hk
 clear hk
 by_cases hk : o = 2
 ·clear  hk1
  subst hk
  have HRk := qH (show R = oNew (ndL f n) true (nms p) from HR.out)
  have hc := add_any HD.out.wo HT0.out p HP.out true 2 rfl
  go_enter Tryz.func39, Tryz.ntmps39
  go_wp2_with fail
  rw [← HD.out.eq, ← HD.out.hH]
  refine hc.mono ?_
  rintro e w2 h2
  clear hc
  rcases h2.cases with ⟨he, rfl, g', n', c', f', hW, hL, hT, hg⟩ | ⟨he, rfl, hT⟩
  ·have HRS := qH (HD.out.resT hT HNE.out.1 HNE.out.2)
   have HW := qH hW; have HL := qH hL; have HT := qH hT; have HG := qH hg; have HE := qH he; have HBD := qH (bad_new (ndL f n) true (nms p)); clear hW hL hT hg he h2; obtain ⟨x0, x1, x2, x3, x4, x5⟩ := HRS.out.cells; have g0 := HRS.out.free 0; have g1 := HRS.out.free 1; have g2 := HRS.out.free 2; have g3 := HRS.out.free 3; have g4 := HRS.out.free 4; have g5 := HRS.out.free 5; go_wp2_with fail
   have hok : R.2 = .ok := by rw [HRk.out, HBD.out, HE.out]; rfl
   have hfin := OpR.fin (H := H) (r := R) (da := none) (dn := 0) (dc := 0) (na := none) (nn := 0) (nc := 0) (Ls := []) (by rw [HD.out.hH]; exact Nat.le_succ _) HD.out.bel HT.out HRS.out (by rw [hok]; rfl) HW.out (by rw [HRk.out]; exact HL.out) HG.out (by rw [hok]; exact ⟨Pin.zero _, sts_nil _ _, rfl, fun _ => ⟨rfl, rfl⟩, Nat.le_refl _⟩); rw [hok] at hfin; refine bodyPost_ret (res_cell rfl _ _ ⟨H, 0, none⟩ _ rfl (HRS.out.set _ _ _ _ _ _).load) rfl ?_
   exact hfin
  ·go_wp2_with fail
   exact ⟨rfl, OpR.err HD.out.bel hT (by rw [HRk.out]) he⟩
 have hk2 := hk
 clear hk
 by_cases hk : o = 3
 ·clear  hk1 hk2
  subst hk
  have HRk := qH (show R = oLink (ndL f n) (nms p) (nms q) from HR.out)
  have hc := link_any HD.out.wo HT0.out p q HP.out HQ.out
  go_enter Tryz.func39, Tryz.ntmps39
  go_wp2_with fail
  rw [← HD.out.eq, ← HD.out.hH]
  refine hc.mono ?_
  rintro e w2 h2
  clear hc
  rcases h2.cases with ⟨he, rfl, g', n', c', f', hW, hL, hT, hg⟩ | ⟨he, rfl, hT⟩
  ·have HRS := qH (HD.out.resT hT HNE.out.1 HNE.out.2)
   have HW := qH hW; have HL := qH hL; have HT := qH hT; have HG := qH hg; have HE := qH he; have HBD := qH (bad_link (ndL f n) (nms p) (nms q)); clear hW hL hT hg he h2; obtain ⟨x0, x1, x2, x3, x4, x5⟩ := HRS.out.cells; have g0 := HRS.out.free 0; have g1 := HRS.out.free 1; have g2 := HRS.out.free 2; have g3 := HRS.out.free 3; have g4 := HRS.out.free 4; have g5 := HRS.out.free 5; go_wp2_with fail
   have hok : R.2 = .ok := by rw [HRk.out, HBD.out, HE.out]; rfl
   have hfin := OpR.fin (H := H) (r := R) (da := none) (dn := 0) (dc := 0) (na := none) (nn := 0) (nc := 0) (Ls := []) (by rw [HD.out.hH]; exact Nat.le_succ _) HD.out.bel HT.out HRS.out (by rw [hok]; rfl) HW.out (by rw [HRk.out]; exact HL.out) HG.out (by rw [hok]; exact ⟨Pin.zero _, sts_nil _ _, rfl, fun _ => ⟨rfl, rfl⟩, Nat.le_refl _⟩); rw [hok] at hfin; refine bodyPost_ret (res_cell rfl _ _ ⟨H, 0, none⟩ _ rfl (HRS.out.set _ _ _ _ _ _).load) rfl ?_
   exact hfin
  ·go_wp2_with fail
   exact ⟨rfl, OpR.err HD.out.bel hT (by rw [HRk.out]) he⟩
 have hk3 := hk
 clear hk
 by_cases hk : o = 4
 ·clear  hk1 hk2 hk3
  subst hk
  have HRk := qH (show R = oCut (ndL f n) false (nms p) from HR.out)
  have hc := unlink_any HD.out.wo HT0.out p HP.out
  go_enter Tryz.func39, Tryz.ntmps39
  go_wp2_with fail
  rw [← HD.out.eq, ← HD.out.hH]
  refine hc.mono ?_
  rintro e w2 h2
  clear hc
  rcases h2.cases with ⟨he, rfl, g', n', c', f', hW, hL, hT, hg⟩ | ⟨he, rfl, hT⟩
  ·have HRS := qH (HD.out.resT hT HNE.out.1 HNE.out.2)
   have HW := qH hW; have HL := qH hL; have HT := qH hT; have HG := qH hg; have HE := qH he; have HBD := qH (bad_cut (ndL f n) false (nms p)); clear hW hL hT hg he h2; obtain ⟨x0, x1, x2, x3, x4, x5⟩ := HRS.out.cells; have g0 := HRS.out.free 0; have g1 := HRS.out.free 1; have g2 := HRS.out.free 2; have g3 := HRS.out.free 3; have g4 := HRS.out.free 4; have g5 := HRS.out.free 5; go_wp2_with fail
   have hok : R.2 = .ok := by rw [HRk.out, HBD.out, HE.out]; rfl
   have hfin := OpR.fin (H := H) (r := R) (da := none) (dn := 0) (dc := 0) (na := none) (nn := 0) (nc := 0) (Ls := []) (by rw [HD.out.hH]; exact Nat.le_succ _) HD.out.bel HT.out HRS.out (by rw [hok]; rfl) HW.out (by rw [HRk.out]; exact HL.out) HG.out (by rw [hok]; exact ⟨Pin.zero _, sts_nil _ _, rfl, fun _ => ⟨rfl, rfl⟩, Nat.le_refl _⟩); rw [hok] at hfin; refine bodyPost_ret (res_cell rfl _ _ ⟨H, 0, none⟩ _ rfl (HRS.out.set _ _ _ _ _ _).load) rfl ?_
   exact hfin
  ·go_wp2_with fail
   exact ⟨rfl, OpR.err HD.out.bel hT (by rw [HRk.out]) he⟩
 have hk4 := hk
 clear hk
 by_cases hk : o = 5
 ·clear  hk1 hk2 hk3 hk4
  subst hk
  have HRk := qH (show R = oCut (ndL f n) true (nms p) from HR.out)
  have hc := rmdir_any HD.out.wo HT0.out p HP.out
  go_enter Tryz.func39, Tryz.ntmps39
  go_wp2_with fail
  rw [← HD.out.eq, ← HD.out.hH]
  refine hc.mono ?_
  rintro e w2 h2
  clear hc
  rcases h2.cases with ⟨he, rfl, g', n', c', f', hW, hL, hT, hg⟩ | ⟨he, rfl, hT⟩
  ·have HRS := qH (HD.out.resT hT HNE.out.1 HNE.out.2)
   have HW := qH hW; have HL := qH hL; have HT := qH hT; have HG := qH hg; have HE := qH he; have HBD := qH (bad_cut (ndL f n) true (nms p)); clear hW hL hT hg he h2; obtain ⟨x0, x1, x2, x3, x4, x5⟩ := HRS.out.cells; have g0 := HRS.out.free 0; have g1 := HRS.out.free 1; have g2 := HRS.out.free 2; have g3 := HRS.out.free 3; have g4 := HRS.out.free 4; have g5 := HRS.out.free 5; go_wp2_with fail
   have hok : R.2 = .ok := by rw [HRk.out, HBD.out, HE.out]; rfl
   have hfin := OpR.fin (H := H) (r := R) (da := none) (dn := 0) (dc := 0) (na := none) (nn := 0) (nc := 0) (Ls := []) (by rw [HD.out.hH]; exact Nat.le_succ _) HD.out.bel HT.out HRS.out (by rw [hok]; rfl) HW.out (by rw [HRk.out]; exact HL.out) HG.out (by rw [hok]; exact ⟨Pin.zero _, sts_nil _ _, rfl, fun _ => ⟨rfl, rfl⟩, Nat.le_refl _⟩); rw [hok] at hfin; refine bodyPost_ret (res_cell rfl _ _ ⟨H, 0, none⟩ _ rfl (HRS.out.set _ _ _ _ _ _).load) rfl ?_
   exact hfin
  ·go_wp2_with fail
   exact ⟨rfl, OpR.err HD.out.bel hT (by rw [HRk.out]) he⟩
 have hk5 := hk
 clear hk
 by_cases hk : o = 6
 ·clear  hk1 hk2 hk3 hk4 hk5
  subst hk
  have HRk := qH (show R = oRen (ndL f n) (nms p) (nms q) from HR.out)
  have hc := rename_any HD.out.wo HT0.out p q HP.out HQ.out
  go_enter Tryz.func39, Tryz.ntmps39
  go_wp2_with fail
  rw [← HD.out.eq, ← HD.out.hH]
  refine hc.mono ?_
  rintro e w2 h2
  clear hc
  rcases h2.cases with ⟨he, rfl, g', n', c', f', hW, hL, hT, hg⟩ | ⟨he, rfl, hT⟩
  ·have HRS := qH (HD.out.resT hT HNE.out.1 HNE.out.2)
   have HW := qH hW; have HL := qH hL; have HT := qH hT; have HG := qH hg; have HE := qH he; have HBD := qH (bad_ren (ndL f n) (nms p) (nms q)); clear hW hL hT hg he h2; obtain ⟨x0, x1, x2, x3, x4, x5⟩ := HRS.out.cells; have g0 := HRS.out.free 0; have g1 := HRS.out.free 1; have g2 := HRS.out.free 2; have g3 := HRS.out.free 3; have g4 := HRS.out.free 4; have g5 := HRS.out.free 5; go_wp2_with fail
   have hok : R.2 = .ok := by rw [HRk.out, HBD.out, HE.out]; rfl
   have hfin := OpR.fin (H := H) (r := R) (da := none) (dn := 0) (dc := 0) (na := none) (nn := 0) (nc := 0) (Ls := []) (by rw [HD.out.hH]; exact Nat.le_succ _) HD.out.bel HT.out HRS.out (by rw [hok]; rfl) HW.out (by rw [HRk.out]; exact HL.out) HG.out (by rw [hok]; exact ⟨Pin.zero _, sts_nil _ _, rfl, fun _ => ⟨rfl, rfl⟩, Nat.le_refl _⟩); rw [hok] at hfin; refine bodyPost_ret (res_cell rfl _ _ ⟨H, 0, none⟩ _ rfl (HRS.out.set _ _ _ _ _ _).load) rfl ?_
   exact hfin
  ·go_wp2_with fail
   exact ⟨rfl, OpR.err HD.out.bel hT (by rw [HRk.out]) he⟩
 have hk6 := hk
 clear hk
 by_cases hk : o = 7
 ·clear  hk1 hk2 hk3 hk4 hk5 hk6
  subst hk
  have HRk := qH (show R = oRead (ndL f n) (nms p) i m from HR.out)
  have hc := read_any HD.out.wo.wr HT0.out p HP.out i m HI.out.2 HM.out.2
  go_enter Tryz.func39, Tryz.ntmps39
  go_wp2_with fail
  rw [← HD.out.eq, ← HD.out.hH]
  refine hc.mono ?_
  rintro e w2 h2
  clear hc
  obtain ⟨h3, hb⟩ := h2.cases
  have HT := qH (Turn.belowW (wb := wb) (g := g) hb)
  have HW := qH (HD.out.wo.next hb)
  clear hb h2
  rcases h3 with ⟨he, v, rfl, hv⟩ | ⟨he, rfl⟩
  ·obtain ⟨a, cc, rfl, hpin, _⟩ := hv.pin
   have HRS := qH (HD.out.resT HT.out HNE.out.1 HNE.out.2); have HPN := qH hpin; have HE := qH he; clear hpin hv he; obtain ⟨x0, x1, x2, x3, x4, x5⟩ := HRS.out.cells; have g0 := HRS.out.free 0; have g1 := HRS.out.free 1; have g2 := HRS.out.free 2; have g3 := HRS.out.free 3; have g4 := HRS.out.free 4; have g5 := HRS.out.free 5; go_wp2_with fail
   have hok : R.2 = ⟨0, (oRead (ndL f n) (nms p) i m).2.d, [], 0, 0, 0⟩ := by rw [HRk.out]; exact rd_form HE.out
   have hfin := OpR.fin (H := H) (r := R) (na := none) (nn := 0) (nc := 0) (Ls := []) (by rw [HD.out.hH]; exact Nat.le_succ _) HD.out.bel HT.out HRS.out (by rw [hok]) HW.out (by rw [HRk.out, read_one]) (.inl rfl) (by rw [hok]; exact ⟨HPN.out, sts_nil _ _, rfl, fun _ => ⟨rfl, rfl⟩, Nat.le_refl _⟩); rw [hok] at hfin; refine bodyPost_ret (res_cell rfl _ _ ⟨H, 0, none⟩ _ rfl (HRS.out.set _ _ _ _ _ _).load) rfl ?_
   exact hfin
  ·go_wp2_with fail
   exact ⟨rfl, OpR.err HD.out.bel HT.out (by rw [HRk.out]) he⟩
 have hk7 := hk
 clear hk
 by_cases hk : o = 8
 ·clear  hk1 hk2 hk3 hk4 hk5 hk6 hk7
  subst hk
  have HRk := qH (show R = oWrite (ndL f n) (nms p) i zs from HR.out)
  have hc := write_any HD.out.wo HT0.out p HP.out i HI.out da dn dc zs HD.out.pin HD.out.off
  go_enter Tryz.func39, Tryz.ntmps39
  go_wp2_with fail
  rw [← HD.out.eq, ← HD.out.hH]
  refine hc.mono ?_
  rintro e w2 h2
  clear hc
  rcases h2.cases with ⟨he, rfl, g', n', c', f', hW, hL, hT, hg⟩ | ⟨he, rfl, hT⟩
  ·have HRS := qH (HD.out.resT hT HNE.out.1 HNE.out.2)
   have HW := qH hW; have HL := qH hL; have HT := qH hT; have HG := qH hg; have HE := qH he; clear hW hL hT hg he h2; obtain ⟨x0, x1, x2, x3, x4, x5⟩ := HRS.out.cells; have g0 := HRS.out.free 0; have g1 := HRS.out.free 1; have g2 := HRS.out.free 2; have g3 := HRS.out.free 3; have g4 := HRS.out.free 4; have g5 := HRS.out.free 5; go_wp2_with fail
   have hok : R.2 = ⟨0, [], [], 0, 0, (oWrite (ndL f n) (nms p) i zs).2.sz⟩ := by rw [HRk.out]; exact wr_form HE.out
   have hfin := OpR.fin (H := H) (r := R) (da := none) (dn := 0) (dc := 0) (na := none) (nn := 0) (nc := 0) (Ls := []) (by rw [HD.out.hH]; exact Nat.le_succ _) HD.out.bel HT.out HRS.out (by rw [hok]) HW.out (by rw [HRk.out]; exact HL.out) HG.out (by rw [hok]; exact ⟨Pin.zero _, sts_nil _ _, rfl, fun _ => ⟨rfl, rfl⟩, Nat.le_refl _⟩); rw [hok] at hfin; refine bodyPost_ret (res_cell rfl _ _ ⟨H, 0, none⟩ _ rfl (HRS.out.set _ _ _ _ _ _).load) rfl ?_
   exact hfin
  ·go_wp2_with fail
   exact ⟨rfl, OpR.err HD.out.bel hT (by rw [HRk.out]) he⟩
 have hk8 := hk
 clear hk
 by_cases hk : o = 9
 ·clear  hk1 hk2 hk3 hk4 hk5 hk6 hk7 hk8
  subst hk
  have HRk := qH (show R = oTrunc (ndL f n) (nms p) m from HR.out)
  have hc := trunc_any HD.out.wo HT0.out p HP.out m HM.out
  go_enter Tryz.func39, Tryz.ntmps39
  go_wp2_with fail
  rw [← HD.out.eq, ← HD.out.hH]
  refine hc.mono ?_
  rintro e w2 h2
  clear hc
  rcases h2.cases with ⟨he, rfl, g', n', c', f', hW, hL, hT, hg⟩ | ⟨he, rfl, hT⟩
  ·have HRS := qH (HD.out.resT hT HNE.out.1 HNE.out.2)
   have HW := qH hW; have HL := qH hL; have HT := qH hT; have HG := qH hg; have HE := qH he; have HBD := qH (bad_trunc (ndL f n) (nms p) m); clear hW hL hT hg he h2; obtain ⟨x0, x1, x2, x3, x4, x5⟩ := HRS.out.cells; have g0 := HRS.out.free 0; have g1 := HRS.out.free 1; have g2 := HRS.out.free 2; have g3 := HRS.out.free 3; have g4 := HRS.out.free 4; have g5 := HRS.out.free 5; go_wp2_with fail
   have hok : R.2 = .ok := by rw [HRk.out, HBD.out, HE.out]; rfl
   have hfin := OpR.fin (H := H) (r := R) (da := none) (dn := 0) (dc := 0) (na := none) (nn := 0) (nc := 0) (Ls := []) (by rw [HD.out.hH]; exact Nat.le_succ _) HD.out.bel HT.out HRS.out (by rw [hok]; rfl) HW.out (by rw [HRk.out]; exact HL.out) HG.out (by rw [hok]; exact ⟨Pin.zero _, sts_nil _ _, rfl, fun _ => ⟨rfl, rfl⟩, Nat.le_refl _⟩); rw [hok] at hfin; refine bodyPost_ret (res_cell rfl _ _ ⟨H, 0, none⟩ _ rfl (HRS.out.set _ _ _ _ _ _).load) rfl ?_
   exact hfin
  ·go_wp2_with fail
   exact ⟨rfl, OpR.err HD.out.bel hT (by rw [HRk.out]) he⟩
 have hk9 := hk
 clear hk
 by_cases hk : o = 10
 ·clear  hk1 hk2 hk3 hk4 hk5 hk6 hk7 hk8 hk9
  subst hk
  have HRk := qH (show R = ((ndL f n), oAsk (ndL f n) 10 (nms p)) from HR.out)
  have hc := stat_any HD.out.wo.wr HT0.out p HP.out
  go_enter Tryz.func39, Tryz.ntmps39
  go_wp2_with fail
  rw [← HD.out.eq, ← HD.out.hH]
  refine hc.mono ?_
  rintro e w2 h2
  clear hc
  obtain ⟨h3, hb⟩ := h2
  have HT := qH (Turn.belowW (wb := wb) (g := g) hb)
  have HW := qH (HD.out.wo.next hb)
  clear hb
  cases hfo : findO (ndL f n) (nms p) with
  | error x =>
   rw [hfo] at h3; obtain rfl : e = .panicked [pe x] := h3; have hR := ask_err 10 hfo; clear hfo; go_wp2_with fail
   exact ⟨rfl, OpR.err HD.out.bel HT.out (by rw [HRk.out, hR.1]; rfl) hR.2⟩
  | ok k =>
   rw [hfo] at h3; obtain rfl : e = _ := h3; have hok := qH (show R.2 = ⟨0, [], [], (nat (ndL f n) k).k, (nat (ndL f n) k).l, (((nat (ndL f n) k).d.length + (nat (ndL f n) k).e.length : Nat) : Int)⟩ by rw [HRk.out]; exact ask_stat hfo); have HRS := qH (HD.out.resT HT.out HNE.out.1 HNE.out.2); clear hfo; unfold numR3; obtain ⟨x0, x1, x2, x3, x4, x5⟩ := HRS.out.cells; have g0 := HRS.out.free 0; have g1 := HRS.out.free 1; have g2 := HRS.out.free 2; have g3 := HRS.out.free 3; have g4 := HRS.out.free 4; have g5 := HRS.out.free 5; go_wp2_with fail; have hfin := OpR.fin (H := H) (r := R) (da := none) (dn := 0) (dc := 0) (na := none) (nn := 0) (nc := 0) (Ls := []) (by rw [HD.out.hH]; exact Nat.le_succ _) HD.out.bel HT.out HRS.out (by rw [hok.out]) HW.out (by rw [HRk.out]) (.inl rfl) (by rw [hok.out]; exact ⟨Pin.zero _, sts_nil _ _, rfl, fun _ => ⟨rfl, rfl⟩, Nat.le_refl _⟩); rw [hok.out] at hfin; refine bodyPost_ret (res_cell rfl _ _ ⟨H, 0, none⟩ _ rfl (HRS.out.set _ _ _ _ _ _).load) rfl ?_
   exact hfin
 have hk10 := hk
 clear hk
 by_cases hk : o = 11
 ·clear  hk1 hk2 hk3 hk4 hk5 hk6 hk7 hk8 hk9 hk10
  subst hk
  have HRk := qH (show R = ((ndL f n), oAsk (ndL f n) 11 (nms p)) from HR.out)
  have hc := list_any HD.out.wo.wr HT0.out p HP.out
  go_enter Tryz.func39, Tryz.ntmps39
  go_wp2_with fail
  rw [← HD.out.eq, ← HD.out.hH]
  refine hc.mono ?_
  rintro e w2 h2
  clear hc
  obtain ⟨h3, hb⟩ := h2
  have HT := qH (Turn.belowW (wb := wb) (g := g) hb)
  have HW := qH (HD.out.wo.next hb)
  clear hb
  cases hfo : dirAtO (ndL f n) (nms p) with
  | error x =>
   rw [hfo] at h3; obtain rfl : e = .panicked [pe x] := h3; have hR := ask_listE hfo; clear hfo; go_wp2_with fail
   exact ⟨rfl, OpR.err HD.out.bel HT.out (by rw [HRk.out, hR.1]; rfl) hR.2⟩
  | ok k =>
   rw [hfo] at h3; obtain ⟨v, rfl, hv⟩ := h3; have hok := qH (show R.2 = ⟨0, [], (nat (ndL f n) k).e.map (·.s), 0, 0, 0⟩ by rw [HRk.out]; exact ask_list hfo); have HRS := qH (HD.out.resT HT.out HNE.out.1 HNE.out.2); obtain ⟨a, cc, rfl, hs, h4, _, h5, _⟩ := hv.sts; have HS := qH (And.intro hs (And.intro h4 h5)); clear hfo hv hs h4 h5; obtain ⟨x0, x1, x2, x3, x4, x5⟩ := HRS.out.cells; have g0 := HRS.out.free 0; have g1 := HRS.out.free 1; have g2 := HRS.out.free 2; have g3 := HRS.out.free 3; have g4 := HRS.out.free 4; have g5 := HRS.out.free 5; go_wp2_with fail; have hfin := OpR.fin (H := H) (r := R) (da := none) (dn := 0) (dc := 0) (na := a) (nn := (nat (ndL f n) k).e.length) (nc := cc) (Ls := nmL (nat (ndL f n) k).e) (by rw [HD.out.hH]; exact Nat.le_succ _) HD.out.bel HT.out HRS.out (by rw [hok.out]) HW.out (by rw [HRk.out]) (.inl rfl) (by rw [hok.out]; exact ⟨Pin.zero _, HS.out.1, nmL_map _, HS.out.2.2, HS.out.2.1⟩); rw [hok.out] at hfin; refine bodyPost_ret (res_cell rfl _ _ ⟨H, 0, none⟩ _ rfl (HRS.out.set _ _ _ _ _ _).load) rfl ?_
   exact hfin
 have hk11 := hk
 clear hk
 by_cases hk : o = 12
 ·clear  hk1 hk2 hk3 hk4 hk5 hk6 hk7 hk8 hk9 hk10 hk11
  subst hk
  have hok := qH (show R.2 = .ok by rw [HR.out]; rfl)
  have hok1 := qH (show R.1 = ndL f n by rw [HR.out]; rfl)
  go_enter Tryz.func39, Tryz.ntmps39
  go_wp2_with fail
  rw [← HD.out.eq]
  have hr : RsB w1 H #[.int .i64 0, .slice none 0 0, .slice none 0 0, .int .i64 0, .int .i64 0, .int .i64 0] := HD.out.res
  refine bodyPost_ret (res_cell rfl _ _ ⟨H, 0, none⟩ _ (by rw [HD.out.hH]; rfl) hr.load) rfl ?_
  unfold OpR
  rw [hok.out, if_pos (show Rv.ok.err = 0 from rfl)]
  exact ⟨⟨_, rfl, resV_num _ _ _ _ _⟩, ⟨g, n, c, f, HD.out.wo, hok1.out.symm, .inl rfl⟩, .of_below HD.out.bel⟩
 have hk12 := hk
 clear hk
 by_cases hk : o = 13
 ·clear  hk1 hk2 hk3 hk4 hk5 hk6 hk7 hk8 hk9 hk10 hk11 hk12
  subst hk
  have HRk := qH (show R = ((ndL f n), oAsk (ndL f n) 13 (nms p)) from HR.out)
  have hc := at_any HD.out.wo.wr HT0.out p HP.out
  go_enter Tryz.func39, Tryz.ntmps39
  go_wp2_with fail
  rw [← HD.out.eq, ← HD.out.hH]
  refine hc.mono ?_
  rintro e w2 h2
  clear hc
  obtain ⟨h3, hb⟩ := h2
  have HT := qH (Turn.belowW (wb := wb) (g := g) hb)
  have HW := qH (HD.out.wo.next hb)
  clear hb
  cases hfo : findO (ndL f n) (nms p) with
  | error x =>
   rw [hfo] at h3; obtain rfl : e = .panicked [pe x] := h3; have hR := ask_err 13 hfo; clear hfo; go_wp2_with fail
   exact ⟨rfl, OpR.err HD.out.bel HT.out (by rw [HRk.out, hR.1]; rfl) hR.2⟩
  | ok k =>
   rw [hfo] at h3; obtain rfl : e = .returned (.int .i64 (k : Int)) := h3; have hok := qH (show R.2 = .ok by rw [HRk.out]; exact ask_sync hfo); have HRS := qH (HD.out.resT HT.out HNE.out.1 HNE.out.2); clear hfo; obtain ⟨x0, x1, x2, x3, x4, x5⟩ := HRS.out.cells; have g0 := HRS.out.free 0; have g1 := HRS.out.free 1; have g2 := HRS.out.free 2; have g3 := HRS.out.free 3; have g4 := HRS.out.free 4; have g5 := HRS.out.free 5; go_wp2_with fail; have hfin := OpR.fin (H := H) (r := R) (da := none) (dn := 0) (dc := 0) (na := none) (nn := 0) (nc := 0) (Ls := []) (by rw [HD.out.hH]; exact Nat.le_succ _) HD.out.bel HT.out HRS.out (by rw [hok.out]; rfl) HW.out (by rw [HRk.out]) (.inl rfl) (by rw [hok.out]; exact ⟨Pin.zero _, sts_nil _ _, rfl, fun _ => ⟨rfl, rfl⟩, Nat.le_refl _⟩); rw [hok.out] at hfin; refine bodyPost_ret (res_cell rfl _ _ ⟨H, 0, none⟩ _ rfl (HRS.out.set _ _ _ _ _ _).load) rfl ?_
   exact hfin
 have hk13 := hk
 clear hk
 have HRk := qH (show R = (ndL f n, .bad 30) by
  rw [HR.out]
  unfold oAny
  simp only [hk1, hk2, hk3, hk4, hk5, hk6, hk7, hk8, hk9, hk10, hk11, hk12, hk13, if_false, or_self])
 go_enter Tryz.func39, Tryz.ntmps39
 go_wp2_with fail
 exact ⟨rfl, OpR.err (x := 30) HD.out.bel (by rw [HD.out.eq]; exact Turn.refl _ _) (by rw [HRk.out]; rfl) (by decide)⟩
end
end Go.Proofs.YtinholnidchblaaGreatDoor
