import Derived.Test.YtinholnidchblaaGreatDoorQav
set_option linter.unusedVariables false
set_option linter.unusedSimpArgs false
set_option maxRecDepth 100000
set_option maxHeartbeats 16000000
namespace Go.Proofs.YtinholnidchblaaGreatDoor
open Go.RowKit
def toQ (L : List Nd) : Option (List ByteArray) → Value
 | none => toP (.error 20) default
 | some ns => toP (toB L ns) (lstN ns)
theorem toQ_any {w : World} {n c : Nat} {na : Option Addr} {f : Nat → Nc} (hN : Nds w na n f) (ht : Rgt (ndL f n)) (hen : ∀ i, i < n → (f i).en ≤ 1000000) (p : ByteArray) (hp : p.size ≤ 1000000) (hr : nms p ≠ some []) :
  Calls Tryz.prog 113 #[.agg #[.slice na n c], .string p] w fun e w' => e = .returned (toQ (ndL f n) (nms p)) ∧ Below w.heap.size w w' := by
 have h := to_any (c := c) hN ht hen p hp hr
 refine h.mono ?_
 rintro e w' ⟨he, hb⟩
 refine ⟨he.trans ?_, hb⟩
 cases nms p <;> rfl
theorem rnew_to {L : List Nd} {dir : Bool} {P : Option (List ByteArray)} (hr : P ≠ some []) : ∃ T s, toQ L P = toP T s ∧
  (∀ e, T = .error e → e ≠ 0 ∧ oNew L dir P = (L, .bad e)) ∧ (∀ a k, T = .ok (a, some k) → oNew L dir P = (L, .bad 24)) ∧
  (∀ a, T = .ok (a, none) → oNew L dir P = if 64 ≤ (nat L a).e.length ∨ 56 ≤ L.length then (L, .bad 27) else (putE L a s L.length ++ [⟨if dir then 2 else 1, 0, [], []⟩], .ok)) ∧ (∀ a o, T = .ok (a, o) → ∃ ns, wlk L 0 ns = .ok a) := by
 cases P with
 | none => exact ⟨.error 20, default, rfl, fun e he => (by cases he; exact ⟨by decide, rfl⟩), fun a k h => (by cases h), fun a h => (by cases h), fun a o h => (by cases h)⟩
 | some ns =>
  have hne : ns ≠ [] := by rintro rfl; exact hr rfl
  refine ⟨toB L ns, lstN ns, rfl, fun e he => ⟨toB_err he, ?_⟩, fun a k h => ?_, fun a h => ?_, fun a o h => ⟨_, (toB_ok h).1⟩⟩
  ·simp only [oNew, if_neg hne, he]
  ·simp [oNew, hne, h]
  ·simp only [oNew, if_neg hne, h, Option.isSome_none, Bool.false_eq_true, if_false]
theorem lt_wlk {f : Nat → Nc} {n a : Nat} (ht : Rgt (ndL f n)) {ns : List ByteArray} (h : wlk (ndL f n) 0 ns = .ok a) : a < n := by
 have := ht.snd.wlklt h
 rw [ndL_len] at this
 exact this
theorem cells4 {w : World} {b t : Nat} {z : Nat × Nat} {v0 v1 v2 v3 : Value} (h : w.heap[b]? = some (.cells #[v0, v1, v2, v3] t z)) : w.cell? ⟨b, 0, none⟩ = some v0 ∧ w.cell? ⟨b, 1, none⟩ = some v1 ∧ w.cell? ⟨b, 2, none⟩ = some v2 ∧ w.cell? ⟨b, 3, none⟩ = some v3 := by
 refine ⟨?_, ?_, ?_, ?_⟩ <;> simp [World.cell?, h]
theorem OpI.turn {w0 wr w' : World} {x n c : Nat} {na : Option Addr} {o i m : Int} {p q : ByteArray} {da : Option Addr} {dn dc : Nat} {M : Nat → Prop} (h : OpI w0 x na n c o i m p q da dn dc wr) (hT : Turn M wr w') (hM : ∀ k, M k → x + 3 < k) : OpI w0 x na n c o i m p q da dn dc w' :=
 ⟨h.at0, h.bel.trans (hT.below h.bel.size fun k e => by have := hM k e; have := h.at0; omega), (hT.block x (lt_of_block h.box) (fun e => by have := hM _ e; omega)).trans h.box, (hT.block (x + 1) (lt_of_block h.op) (fun e => by have := hM _ e; omega)).trans h.op,
  (hT.block (x + 2) (lt_of_block h.res) (fun e => by have := hM _ e; omega)).trans h.res, (hT.block (x + 3) (lt_of_block h.ans) (fun e => by have := hM _ e; omega)).trans h.ans⟩
theorem grow_fin {w0 w9 w11 : World} {x n c y gb n' cg i' j' : Nat} {na : Option Addr} {o i m : Int} {p q : ByteArray} {da : Option Addr} {dn dc : Nat} {v : Value} {g g' : Nat → Nc} (hI : OpI w0 x na n c o i m p q da dn dc w9) (hv : TrB w9 y v) (hy : x + 3 < y) (hown : OwN w9 v j' g)
  (hO : OwN w11 (.slice (some ⟨gb, 0, none⟩) n' cg) i' g') (hT : Turn (fun j => v.ownBlock = some j) w9 w11) (hG : v.ownBlock = some gb ∨ w9.heap.size ≤ gb) (hf : ∀ j, v.ownBlock = some j → x + 3 < j ∧ j ≠ y) :
  OpI w0 x na n c o i m p q da dn dc (w11.setCell ⟨y, 0, none⟩ (.slice (some ⟨gb, 0, none⟩) n' cg)) ∧ OwN (w11.setCell ⟨y, 0, none⟩ (.slice (some ⟨gb, 0, none⟩) n' cg)) (.slice (some ⟨gb, 0, none⟩) n' cg) i' g' ∧ TrB w11 y v ∧
   TrB (w11.setCell ⟨y, 0, none⟩ (.slice (some ⟨gb, 0, none⟩) n' cg)) y (.slice (some ⟨gb, 0, none⟩) n' cg) := by
 have o3 : TrB w11 y v := (hT.block y (lt_of_block hv) (fun e => (hf y e).2 rfl)).trans hv
 have hT3 : Turn (· = y) w11 (w11.setCell ⟨y, 0, none⟩ (.slice (some ⟨gb, 0, none⟩) n' cg)) := turn_set w11 y 0 _
 have hI2 := hI.turn hT (fun k e => (hf k e).1)
 have hne : gb ≠ y := by
  rcases hG with e | e
  ·exact (hf gb e).2
  ·have := lt_of_block hv
   omega
 exact ⟨hI2.turn hT3 (fun k e => by omega), hO.turnO (hown.oddV' o3 hown.form) hT3 (by simpa [Value.ownBlock] using hne), o3, TrB.set o3 _⟩
theorem ndL_grow (g : Nat → Nc) (k : Nat) (y : Nc) : ndL (updN g k y) (k + 1) = ndL g k ++ [y.nd] := by
 rw [ndL_succ, updN_same]
 congr 1
 exact List.map_congr_left fun j hj => by rw [updN_other _ _ (by have := List.mem_range.1 hj; omega)]
section
variable {w : World} {n c : Nat} {na : Option Addr} {f : Nat → Nc} {o i m : Int} {p q : ByteArray} {da : Option Addr} {dn dc : Nat}
theorem create_any (dir : Bool) (hN : Nds w na n f) (ht : Rgt (ndL f n)) (hen : ∀ i, i < n → (f i).dn ≤ 1000000 ∧ (f i).en ≤ 100000) (hp : p.size ≤ 1000000) (ho : o = if dir then 2 else 1) :
  Calls Tryz.prog 74 #[.agg #[.slice na n c], .agg #[.int .i64 o, .string p, .string q, .int .i64 i, .int .i64 m, .slice da dn dc]] w (RefR w (oNew (ndL f n) dir (nms p))) := by
 have HO := qH ho
 clear ho
 obtain ⟨RR, hRR⟩ : ∃ RR, RR = oNew (ndL f n) dir (nms p) := ⟨_, rfl⟩
 rw [← hRR]
 have HRR := qH hRR
 obtain ⟨x, hx⟩ : ∃ x, x = w.heap.size := ⟨_, rfl⟩
 obtain ⟨w4, hw4, hI⟩ := op_start w na n c o i m p q da dn dc
 rw [← hx] at hI
 have HI0 := qH hI
 have HX := qH hx
 have HW4 := qH hw4
 unfold ResZ at hw4
 have HT := qH ht
 have HEN := qH hen
 have hn56 : n ≤ 56 := ht.le.2
 clear hRR hI hx ht
 obtain ⟨b1, b2, b3, b4, b5, b6⟩ := HI0.out.op.cells
 have l1 := HI0.out.box.load
 have l2 := HI0.out.box.cell
 by_cases hr : nms p = some []
 ·have RRP : Hid (RR = (ndL f n, .bad 24)) := qH (HRR.out.trans (by rw [hr]; rfl))
  have hp47 := root_yes hr
  clear hr
  go_enter Tryz.func74, Tryz.ntmps74
  go_wp2_with fail
  rw [← HX.out, ← hw4]
  clear hw4
  refine wp_region_held_drew (S := (fun w' => TrB w' x (.slice na n c))) (by kernel_rfl) ?_ (fun hHeld => ?_)
  ·exact HI0.out.box
  refine rgZ 0 ?_ rfl (.inl ⟨by rfl, fun w hSw => ?_⟩) ?_ (by kernel_rfl) (fun _ _ _ h => h) (by assumption)
  rotate_left
  ·have hl := TrB.load hSw
   have hcl := TrB.cell hSw; go_simp
   try with_reducible rfl
  simp only [Act.put, rg]
  refine rgC 1 rfl (by kernel_rfl) (fun K hK => ?_)
  simp only [rg4, rg5, rg6]
  go_simp
  refine (rwrong_any _ (24)).mono ?_
  rintro e w7 ⟨rfl, hb7⟩
  have HI7 := qH (HI0.out.next ((below_drewN (Below.refl _ _) 1).trans hb7))
  have HN7 := qH (hN.next HI7.out.bel)
  clear hb7 hHeld
  go_wp2_with fail
  refine hK.out _ _ HI7.out.box (fun _ => ?_)
  clear hK K
  obtain ⟨r1, r2, r3, ⟨a0, a1, a2, a3, a4, a5⟩, f0, f1, f2, f3, f4, f5, fl⟩ := HI7.out.all
  have HF1 := qH (HI7.out.fin (cc := c) HN7.out (resS_num w7 (24) 0 0 0))
  refine rgC 2 rfl (by kernel_rfl) (fun K hK => ?_)
  simp only [rg4, rg5, rg6]
  go_simp
  go_wp2_with fail
  refine hK.out _ _ HI7.out.b1 (fun _ => ?_)
  clear hK K
  refine rgC 3 rfl (by kernel_rfl) (fun K hK => ?_)
  simp only [rg4, rg5, rg6]
  go_simp
  go_wp2_with fail
  refine hK.out _ _ HI7.out.b6 (fun _ => ?_)
  clear hK K
  refine wpAnyH_done (by kernel_rfl) ?_ _
  clear r1 r2 r3 a0 a1 a2 a3 a4 a5 f0 f1 f2 f3 f4 f5 fl
  go_wp2_with fail
  refine HF1.out.ret rfl rfl rfl rfl ?_
  exact RRP.out ▸ HF1.out.refR rfl
 ·have hp47 := root_no hr
  have hc := toQ_any (c := c) (hN.next HI0.out.bel) HT.out (fun i hi => by have := (HEN.out i hi).2; omega) p hp hr
  obtain ⟨T, s, hV, hTe, hTk, hTn, hTl⟩ := rnew_to (L := ndL f n) (dir := dir) hr
  rw [hV] at hc
  rw [← HRR.out] at hTe hTk hTn
  clear hV hr
  cases T with
  | error e9 =>
   obtain ⟨he9, hrr⟩ := hTe e9 rfl; have RRP := qH hrr
   have hne9 : (e9 != 0) = true := by simpa using he9
   clear hTe hTk hTn hTl hrr he9; dsimp only [toP] at hc
   go_enter Tryz.func74, Tryz.ntmps74
   go_wp2_with fail; rw [← HX.out, ← hw4]; refine hc.mono ?_; rintro e w5 ⟨rfl, hb⟩; have HI := qH (HI0.out.next hb); clear hc hb b1 b2 b3 b4 b5 b6 l1 l2; go_wp2_with fail; refine wp_region_held_drew (S := (fun w' => TrB w' x (.slice na n c))) (by kernel_rfl) ?_ (fun hHeld => ?_)
   ·exact HI.out.box
   refine rgZ 0 ?_ rfl (.inl ⟨by rfl, fun w hSw => ?_⟩) ?_ (by kernel_rfl) (fun _ _ _ h => h) (by assumption); rotate_left
   ·have hl := TrB.load hSw
    have hcl := TrB.cell hSw; go_simp
    try with_reducible rfl
   simp only [Act.put, rg]; refine rgZ 1 ?_ rfl (.inl ⟨by rfl, fun w hSw => ?_⟩) ?_ (by kernel_rfl) (fun _ _ _ h => h) (by assumption); rotate_left
   ·(try dsimp only at hSw); go_simp; try with_reducible rfl
   simp only [Act.put, rg]; refine rgC 2 rfl (by kernel_rfl) (fun K hK => ?_); simp only [rg4, rg5, rg6]; go_simp; refine (rwrong_any _ (e9)).mono ?_; rintro e w7 ⟨rfl, hb7⟩; have HI7 := qH (HI.out.next ((below_drewN (Below.refl _ _) 1).trans hb7)); have HN7 := qH (hN.next HI7.out.bel); clear hb7 hHeld; go_wp2_with fail; refine hK.out _ _ HI7.out.box (fun _ => ?_); clear hK K; obtain ⟨r1, r2, r3, ⟨a0, a1, a2, a3, a4, a5⟩, f0, f1, f2, f3, f4, f5, fl⟩ := HI7.out.all; have HF1 := qH (HI7.out.fin (cc := c) HN7.out (resS_num w7 (e9) 0 0 0)); refine rgC 3 rfl (by kernel_rfl) (fun K hK => ?_); simp only [rg4, rg5, rg6]; go_simp; go_wp2_with fail; refine hK.out _ _ HI7.out.b1 (fun _ => ?_); clear hK K; refine rgC 4 rfl (by kernel_rfl) (fun K hK => ?_); simp only [rg4, rg5, rg6]; go_simp; go_wp2_with fail; refine hK.out _ _ HI7.out.b6 (fun _ => ?_); clear hK K; refine wpAnyH_done (by kernel_rfl) ?_ _; clear r1 r2 r3 a0 a1 a2 a3 a4 a5 f0 f1 f2 f3 f4 f5 fl; go_wp2_with fail; refine HF1.out.ret rfl rfl rfl rfl ?_
   exact RRP.out ▸ HF1.out.refR rfl
  | ok ao =>
   obtain ⟨a, ok9⟩ := ao; obtain ⟨ns9, hw9⟩ := hTl a ok9 rfl; have ha : a < n := lt_wlk HT.out hw9; have HA := qH ha
   cases ok9 with
   | some k9 =>
    have RRP := qH (hTk a k9 rfl); clear hTe hTk hTn hTl hw9; dsimp only [toP] at hc
    go_enter Tryz.func74, Tryz.ntmps74
    go_wp2_with fail; rw [← HX.out, ← hw4]; refine hc.mono ?_; rintro e w5 ⟨rfl, hb⟩; have HI := qH (HI0.out.next hb)
    have hk0 : (0 : Int) ≤ (k9 : Int) := by omega
    have hk1 : ((k9 : Int) != -1) = true := by simp
    have hk2 : ((k9 : Int) == -1) = false := by simp
    clear hc hb b1 b2 b3 b4 b5 b6 l1 l2; go_wp2_with fail; refine wp_region_held_drew (S := (fun w' => TrB w' x (.slice na n c))) (by kernel_rfl) ?_ (fun hHeld => ?_)
    ·exact HI.out.box
    refine rgZ 0 ?_ rfl (.inl ⟨by rfl, fun w hSw => ?_⟩) ?_ (by kernel_rfl) (fun _ _ _ h => h) (by assumption); rotate_left
    ·have hl := TrB.load hSw
     have hcl := TrB.cell hSw; go_simp
     try with_reducible rfl
    simp only [Act.put, rg]; refine rgC 1 rfl (by kernel_rfl) (fun K hK => ?_); simp only [rg4, rg5, rg6]; go_simp; refine (rwrong_any _ (24)).mono ?_; rintro e w7 ⟨rfl, hb7⟩; have HI7 := qH (HI.out.next ((below_drewN (Below.refl _ _) 1).trans hb7)); have HN7 := qH (hN.next HI7.out.bel); clear hb7 hHeld; go_wp2_with fail; refine hK.out _ _ HI7.out.box (fun _ => ?_); clear hK K; obtain ⟨r1, r2, r3, ⟨a0, a1, a2, a3, a4, a5⟩, f0, f1, f2, f3, f4, f5, fl⟩ := HI7.out.all; have HF1 := qH (HI7.out.fin (cc := c) HN7.out (resS_num w7 (24) 0 0 0)); refine rgC 2 rfl (by kernel_rfl) (fun K hK => ?_); simp only [rg4, rg5, rg6]; go_simp; go_wp2_with fail; refine hK.out _ _ HI7.out.b1 (fun _ => ?_); clear hK K; refine rgC 3 rfl (by kernel_rfl) (fun K hK => ?_); simp only [rg4, rg5, rg6]; go_simp; go_wp2_with fail; refine hK.out _ _ HI7.out.b6 (fun _ => ?_); clear hK K; refine wpAnyH_done (by kernel_rfl) ?_ _; clear r1 r2 r3 a0 a1 a2 a3 a4 a5 f0 f1 f2 f3 f4 f5 fl; go_wp2_with fail; refine HF1.out.ret rfl rfl rfl rfl ?_
    exact RRP.out ▸ HF1.out.refR rfl
   | none =>
    have hRN := hTn a rfl; rw [nat_ndL ha, ndL_len] at hRN; have hlen := ((hN.ents a ha).ens).len; have HRN := qH hRN; have HLE := qH hlen; clear hTe hTk hTn hTl hw9 hRN hlen; dsimp only [toP] at hc
    go_enter Tryz.func74, Tryz.ntmps74
    go_wp2_with fail; rw [← HX.out, ← hw4]; refine hc.mono ?_; rintro e w5 ⟨rfl, hb⟩; have HI := qH (HI0.out.next hb); clear hc hb b1 b2 b3 b4 b5 b6 l1 l2; have hb1 := HI.out.box.cell; obtain ⟨c1, c2, c3, c4, c5, c6⟩ := HI.out.op.cells; have hnr := hN.next HI.out.bel; obtain ⟨nb, off, rfl, hbl, d0, d1, d2, d3⟩ := hnr.at ha
    have k0 : (0 : Int) ≤ (a : Int) := by omega
    have k1 : (a : Int) < (n : Int) := by omega
    clear hnr
    by_cases h64 : 64 ≤ (f a).en
    ·have h64i : (64 : Int) ≤ ((f a).en : Int) := by omega
     have RRP : Hid (RR = (ndL f n, .bad 27)) := qH (HRN.out.trans (if_pos (Or.inl (by have h9 : (f a).nd.e.length = (f a).en := HLE.out; omega)))); have H64 := qH h64; clear h64; go_wp2_with fail; refine wp_region_held_drew (S := (fun w' => TrB w' x (.slice (some ⟨nb, off, none⟩) n c))) (by kernel_rfl) ?_ (fun hHeld => ?_)
     ·exact HI.out.box
     refine rgZ 0 ?_ rfl (.inl ⟨by rfl, fun w hSw => ?_⟩) ?_ (by kernel_rfl) (fun _ _ _ h => h) (by assumption); rotate_left
     ·have hl := TrB.load hSw
      have hcl := TrB.cell hSw; go_simp
      try with_reducible rfl
     simp only [Act.put, rg]; refine rgC 1 rfl (by kernel_rfl) (fun K hK => ?_); simp only [rg4, rg5, rg6]; go_simp; refine (rwrong_any _ (27)).mono ?_; rintro e w7 ⟨rfl, hb7⟩; have HI7 := qH (HI.out.next ((below_drewN (Below.refl _ _) 1).trans hb7)); have HN7 := qH (hN.next HI7.out.bel); clear hb7 hHeld; go_wp2_with fail; refine hK.out _ _ HI7.out.box (fun _ => ?_); clear hK K; obtain ⟨r1, r2, r3, ⟨a0, a1, a2, a3, a4, a5⟩, f0, f1, f2, f3, f4, f5, fl⟩ := HI7.out.all; have HF1 := qH (HI7.out.fin (cc := c) HN7.out (resS_num w7 (27) 0 0 0)); refine rgC 2 rfl (by kernel_rfl) (fun K hK => ?_); simp only [rg4, rg5, rg6]; go_simp; go_wp2_with fail; refine hK.out _ _ HI7.out.b1 (fun _ => ?_); clear hK K; refine rgC 3 rfl (by kernel_rfl) (fun K hK => ?_); simp only [rg4, rg5, rg6]; go_simp; go_wp2_with fail; refine hK.out _ _ HI7.out.b6 (fun _ => ?_); clear hK K; refine wpAnyH_done (by kernel_rfl) ?_ _; clear r1 r2 r3 a0 a1 a2 a3 a4 a5 f0 f1 f2 f3 f4 f5 fl; go_wp2_with fail; refine HF1.out.ret rfl rfl rfl rfl ?_
     exact RRP.out ▸ HF1.out.refR rfl
    ·have h64i : ¬ (64 : Int) ≤ ((f a).en : Int) := by omega
     by_cases h56 : 56 ≤ n
     ·have h56i : (56 : Int) ≤ (n : Int) := by omega
      have RRP : Hid (RR = (ndL f n, .bad 27)) := qH (HRN.out.trans (if_pos (Or.inr h56))); have H64 := qH h64; clear h64; go_wp2_with fail; refine wp_region_held_drew (S := (fun w' => TrB w' x (.slice (some ⟨nb, off, none⟩) n c))) (by kernel_rfl) ?_ (fun hHeld => ?_)
      ·exact HI.out.box
      refine rgZ 0 ?_ rfl (.inl ⟨by rfl, fun w hSw => ?_⟩) ?_ (by kernel_rfl) (fun _ _ _ h => h) (by assumption); rotate_left
      ·have hl := TrB.load hSw
       have hcl := TrB.cell hSw; go_simp
       try with_reducible rfl
      simp only [Act.put, rg]; refine rgC 1 rfl (by kernel_rfl) (fun K hK => ?_); simp only [rg4, rg5, rg6]; go_simp; refine (rwrong_any _ (27)).mono ?_; rintro e w7 ⟨rfl, hb7⟩; have HI7 := qH (HI.out.next ((below_drewN (Below.refl _ _) 1).trans hb7)); have HN7 := qH (hN.next HI7.out.bel); clear hb7 hHeld; go_wp2_with fail; refine hK.out _ _ HI7.out.box (fun _ => ?_); clear hK K; obtain ⟨r1, r2, r3, ⟨a0, a1, a2, a3, a4, a5⟩, f0, f1, f2, f3, f4, f5, fl⟩ := HI7.out.all; have HF1 := qH (HI7.out.fin (cc := c) HN7.out (resS_num w7 (27) 0 0 0)); refine rgC 2 rfl (by kernel_rfl) (fun K hK => ?_); simp only [rg4, rg5, rg6]; go_simp; go_wp2_with fail; refine hK.out _ _ HI7.out.b1 (fun _ => ?_); clear hK K; refine rgC 3 rfl (by kernel_rfl) (fun K hK => ?_); simp only [rg4, rg5, rg6]; go_simp; go_wp2_with fail; refine hK.out _ _ HI7.out.b6 (fun _ => ?_); clear hK K; refine wpAnyH_done (by kernel_rfl) ?_ _; clear r1 r2 r3 a0 a1 a2 a3 a4 a5 f0 f1 f2 f3 f4 f5 fl; go_wp2_with fail; refine HF1.out.ret rfl rfl rfl rfl ?_
      exact RRP.out ▸ HF1.out.refR rfl
     ·have h56i : ¬ (56 : Int) ≤ (n : Int) := by omega
      have RRP : Hid (RR = (putE (ndL f n) a s n ++ [⟨if dir then 2 else 1, 0, [], []⟩], .ok)) := qH (HRN.out.trans (if_neg (by have h9 : (f a).nd.e.length = (f a).en := HLE.out; omega))); have H64 := qH h64; clear h64; have hi6 := HI.out.next ((Below.refl _ _).alloc (Nat.le_refl _) (Obj.cells #[.int .i64 1, .int .i64 0, .slice none 0 0, .slice none 0 0] 54 (0, 0))); have HI6 := qH hi6; obtain ⟨g1, g2, g3, g4, g5, g6⟩ := hi6.op.cells; have l6 := hi6.box.load; have l7 := hi6.box.cell; clear hi6
      cases dir with
      | false =>
       obtain rfl : o = 1 := HO.out; have hi7 := HI.out.next ((Below.refl _ _).alloc (Nat.le_refl _) (Obj.cells #[.int .i64 1, .int .i64 0, .slice none 0 0, .slice none 0 0] 54 (0, 0))); have hx7 : (w5.alloc (Obj.cells #[.int .i64 1, .int .i64 0, .slice none 0 0, .slice none 0 0] 54 (0, 0))).heap[w5.heap.size]? = some (.cells #[.int .i64 1, .int .i64 0, .slice none 0 0, .slice none 0 0] 54 (0, 0)) := heap_alloc_new w5 _; have HI7 := qH hi7; have HX7 := qH hx7; have l8 := hi7.box.load; have l9 := hi7.box.cell; clear hi7 hx7; go_wp2_with fail; refine (rputN_any (c := c) (hN.next HI7.out.bel) (by omega) HEN.out a n HA.out s).mono ?_; rintro e w7 ⟨v, k9, g, rfl, hO, hL, hfresh, hb7⟩; have HI8 := qH (HI7.out.next hb7); have HX8 := qH ((hb7.block _ (by simp)).trans HX7.out)
       obtain ⟨b9, hb9⟩ : ∃ b9, b9 = w5.heap.size := ⟨_, rfl⟩
       have HL8 := qH hL; have HO8 := qH hO; have HFR := qH hfresh; rw [← hb9] at HX8; have HB9 := qH hb9; clear hb7 hL hO hfresh l6 l7 l8 l9 g1 g2 g3 g4 g5 g6 c1 c2 c3 c4 c5 c6 hb1 d0 d1 d2 d3; rw [← hb9]; clear hb9; obtain ⟨a9, c9, rfl⟩ := OwN.slice HO8.out
       obtain ⟨y, hy⟩ : ∃ y, y = w7.heap.size := ⟨_, rfl⟩
       obtain ⟨w8, hw8⟩ : ∃ w8, w8 = w7.alloc (.cells #[.slice a9 k9 c9] 26 (0, 0)) := ⟨_, rfl⟩
       have hb8 : Below w7.heap.size w7 w8 := by rw [hw8]; exact (Below.refl _ _).alloc (Nat.le_refl _) _
       have HY := qH hy; have HT8 : Hid (TrB w8 y (.slice a9 k9 c9)) := qH (by rw [hw8, hy]; exact heap_alloc_new w7 _); have HW8 := qH hw8; have HI9 := qH (HI8.out.next hb8); have HO9 := qH (HO8.out.next hb8); have HX9 := qH ((hb8.block _ (lt_of_block HX8.out)).trans HX8.out); have hcs := cells4 HX9.out; rw [hw8] at hcs; obtain ⟨e0, e1, e2, e3⟩ := hcs
       have e5 := (by have h := HT8.out.cell; rw [hw8, hy] at h; exact h)
       have hk9 : k9 ≤ 56 := by
        have h := congrArg List.length HL8.out; rw [ndL_len, putE_len, ndL_len] at h
        omega
       have HK9 := qH hk9; have hxy : x + 3 < w7.heap.size := lt_of_block HI8.out.ans; have HXY := qH hxy
       have HFF : Hid (∀ j, (Value.slice a9 k9 c9).ownBlock = some j → x + 3 < j ∧ j ≠ w7.heap.size) := qH (fun j hj => by
        have h1 := HFR.out j hj; have h2 := lt_of_block HI7.out.ans; have h3 := HO8.out.lt j hj
        exact ⟨by omega, by omega⟩)
       have HIA := qH ((HI9.out.next ((Below.refl _ _).alloc (Nat.le_refl _) (Obj.cells #[.int .i64 1, .int .i64 0, .slice none 0 0, .slice none 0 0] 54 (0, 0))))); have HOA := qH ((HO9.out.next ((Below.refl _ _).alloc (Nat.le_refl _) (Obj.cells #[.int .i64 1, .int .i64 0, .slice none 0 0, .slice none 0 0] 54 (0, 0))))); have hba : Below w8.heap.size w8 (w8.alloc (Obj.cells #[.int .i64 1, .int .i64 0, .slice none 0 0, .slice none 0 0] 54 (0, 0))) := (Below.refl _ _).alloc (Nat.le_refl _) _; have HTA := qH ((hba.block _ (lt_of_block HT8.out)).trans HT8.out)
       have HQA : Hid ((w8.alloc (Obj.cells #[.int .i64 1, .int .i64 0, .slice none 0 0, .slice none 0 0] 54 (0, 0))).heap[w7.heap.size + 1]? = some (Obj.cells #[.int .i64 1, .int .i64 0, .slice none 0 0, .slice none 0 0] 54 (0, 0))) := qH (by
        have h := heap_alloc_new w8 (Obj.cells #[.int .i64 1, .int .i64 0, .slice none 0 0, .slice none 0 0] 54 (0, 0))
        have h2 : w8.heap.size = w7.heap.size + 1 := by rw [hw8]; simp
        rw [h2] at h
        exact h)
       rw [hw8] at HIA HOA HTA HQA; rw [hy] at HTA; clear hb8 hy hw8 hba hk9 hxy
       go_wp2_with (at_builtin; go_must (refine wpList_apO rfl (.tmp 64) (.tmp 66) rfl (.slice a9 k9 c9) k9 g rfl HOA.out ⟨1, 0, none, 0, 0, [], none, 0, 0, []⟩ (w7.heap.size + 1) rfl HQA.out (Pin.zero _) (Enz.zero _) (fun j _ => ⟨fun h => absurd h (Nat.lt_irrefl 0), fun h => absurd h (Nat.lt_irrefl 0)⟩) (by have := HK9.out; omega) ?_); intro gb cg w11 hO11 hT11 hG11; have hgr := grow_fin HIA.out HTA.out HXY.out HOA.out hO11 hT11 hG11 HFF.out; have HGR := qH hgr; have s1 := hgr.2.2.1.cell; have s2 := hgr.2.2.1.free 0; have s3 := lt_of_block hgr.2.2.1; have t1 := hgr.2.2.2.load; have t2 := hgr.2.2.2.cell; have r1 := hgr.1.res.cell; have r2 := hgr.1.res.free 0; have r3 := lt_of_block hgr.1.res; have a0 := RsB.cells hgr.1.ans; have f0 := hgr.1.ans.free 0; have f1 := hgr.1.ans.free 1; have f2 := hgr.1.ans.free 2; have f3 := hgr.1.ans.free 3; have f4 := hgr.1.ans.free 4; have f5 := hgr.1.ans.free 5; have fl := lt_of_block hgr.1.ans; obtain ⟨a0, a1, a2, a3, a4, a5⟩ := a0; have HF1 := qH (hgr.1.fin (cc := cg) hgr.2.1.nds (resS_num _ 0 0 0 0)); clear hgr hO11 hT11)
       clear r1 r2 r3 a0 a1 a2 a3 a4 a5 f0 f1 f2 f3 f4 f5 fl; refine HF1.out.ret rfl rfl rfl rfl ?_
       exact RRP.out ▸ HF1.out.refR (by rw [ndL_grow, HL8.out]; rfl)
      | true =>
       obtain rfl : o = 2 := HO.out; have hi7 := HI.out.next ((Below.refl _ _).alloc (Nat.le_refl _) (Obj.cells #[.int .i64 2, .int .i64 0, .slice none 0 0, .slice none 0 0] 54 (0, 0))); have hx7 : (w5.alloc (Obj.cells #[.int .i64 2, .int .i64 0, .slice none 0 0, .slice none 0 0] 54 (0, 0))).heap[w5.heap.size]? = some (.cells #[.int .i64 2, .int .i64 0, .slice none 0 0, .slice none 0 0] 54 (0, 0)) := heap_alloc_new w5 _; have HI7 := qH hi7; have HX7 := qH hx7; have l8 := hi7.box.load; have l9 := hi7.box.cell; clear hi7 hx7; go_wp2_with fail; refine (rputN_any (c := c) (hN.next HI7.out.bel) (by omega) HEN.out a n HA.out s).mono ?_; rintro e w7 ⟨v, k9, g, rfl, hO, hL, hfresh, hb7⟩; have HI8 := qH (HI7.out.next hb7); have HX8 := qH ((hb7.block _ (by simp)).trans HX7.out)
       obtain ⟨b9, hb9⟩ : ∃ b9, b9 = w5.heap.size := ⟨_, rfl⟩
       have HL8 := qH hL; have HO8 := qH hO; have HFR := qH hfresh; rw [← hb9] at HX8; have HB9 := qH hb9; clear hb7 hL hO hfresh l6 l7 l8 l9 g1 g2 g3 g4 g5 g6 c1 c2 c3 c4 c5 c6 hb1 d0 d1 d2 d3; rw [← hb9]; clear hb9; obtain ⟨a9, c9, rfl⟩ := OwN.slice HO8.out
       obtain ⟨y, hy⟩ : ∃ y, y = w7.heap.size := ⟨_, rfl⟩
       obtain ⟨w8, hw8⟩ : ∃ w8, w8 = w7.alloc (.cells #[.slice a9 k9 c9] 26 (0, 0)) := ⟨_, rfl⟩
       have hb8 : Below w7.heap.size w7 w8 := by rw [hw8]; exact (Below.refl _ _).alloc (Nat.le_refl _) _
       have HY := qH hy; have HT8 : Hid (TrB w8 y (.slice a9 k9 c9)) := qH (by rw [hw8, hy]; exact heap_alloc_new w7 _); have HW8 := qH hw8; have HI9 := qH (HI8.out.next hb8); have HO9 := qH (HO8.out.next hb8); have HX9 := qH ((hb8.block _ (lt_of_block HX8.out)).trans HX8.out); have hcs := cells4 HX9.out; rw [hw8] at hcs; obtain ⟨e0, e1, e2, e3⟩ := hcs
       have e5 := (by have h := HT8.out.cell; rw [hw8, hy] at h; exact h)
       have hk9 : k9 ≤ 56 := by
        have h := congrArg List.length HL8.out; rw [ndL_len, putE_len, ndL_len] at h
        omega
       have HK9 := qH hk9; have hxy : x + 3 < w7.heap.size := lt_of_block HI8.out.ans; have HXY := qH hxy
       have HFF : Hid (∀ j, (Value.slice a9 k9 c9).ownBlock = some j → x + 3 < j ∧ j ≠ w7.heap.size) := qH (fun j hj => by
        have h1 := HFR.out j hj; have h2 := lt_of_block HI7.out.ans; have h3 := HO8.out.lt j hj
        exact ⟨by omega, by omega⟩)
       have HIA := qH ((HI9.out.next ((Below.refl _ _).alloc (Nat.le_refl _) (Obj.cells #[.int .i64 2, .int .i64 0, .slice none 0 0, .slice none 0 0] 54 (0, 0))))); have HOA := qH ((HO9.out.next ((Below.refl _ _).alloc (Nat.le_refl _) (Obj.cells #[.int .i64 2, .int .i64 0, .slice none 0 0, .slice none 0 0] 54 (0, 0))))); have hba : Below w8.heap.size w8 (w8.alloc (Obj.cells #[.int .i64 2, .int .i64 0, .slice none 0 0, .slice none 0 0] 54 (0, 0))) := (Below.refl _ _).alloc (Nat.le_refl _) _; have HTA := qH ((hba.block _ (lt_of_block HT8.out)).trans HT8.out)
       have HQA : Hid ((w8.alloc (Obj.cells #[.int .i64 2, .int .i64 0, .slice none 0 0, .slice none 0 0] 54 (0, 0))).heap[w7.heap.size + 1]? = some (Obj.cells #[.int .i64 2, .int .i64 0, .slice none 0 0, .slice none 0 0] 54 (0, 0))) := qH (by
        have h := heap_alloc_new w8 (Obj.cells #[.int .i64 2, .int .i64 0, .slice none 0 0, .slice none 0 0] 54 (0, 0))
        have h2 : w8.heap.size = w7.heap.size + 1 := by rw [hw8]; simp
        rw [h2] at h
        exact h)
       rw [hw8] at HIA HOA HTA HQA; rw [hy] at HTA; clear hb8 hy hw8 hba hk9 hxy
       go_wp2_with (at_builtin; go_must (refine wpList_apO rfl (.tmp 64) (.tmp 66) rfl (.slice a9 k9 c9) k9 g rfl HOA.out ⟨2, 0, none, 0, 0, [], none, 0, 0, []⟩ (w7.heap.size + 1) rfl HQA.out (Pin.zero _) (Enz.zero _) (fun j _ => ⟨fun h => absurd h (Nat.lt_irrefl 0), fun h => absurd h (Nat.lt_irrefl 0)⟩) (by have := HK9.out; omega) ?_); intro gb cg w11 hO11 hT11 hG11; have hgr := grow_fin HIA.out HTA.out HXY.out HOA.out hO11 hT11 hG11 HFF.out; have HGR := qH hgr; have s1 := hgr.2.2.1.cell; have s2 := hgr.2.2.1.free 0; have s3 := lt_of_block hgr.2.2.1; have t1 := hgr.2.2.2.load; have t2 := hgr.2.2.2.cell; have r1 := hgr.1.res.cell; have r2 := hgr.1.res.free 0; have r3 := lt_of_block hgr.1.res; have a0 := RsB.cells hgr.1.ans; have f0 := hgr.1.ans.free 0; have f1 := hgr.1.ans.free 1; have f2 := hgr.1.ans.free 2; have f3 := hgr.1.ans.free 3; have f4 := hgr.1.ans.free 4; have f5 := hgr.1.ans.free 5; have fl := lt_of_block hgr.1.ans; obtain ⟨a0, a1, a2, a3, a4, a5⟩ := a0; have HF1 := qH (hgr.1.fin (cc := cg) hgr.2.1.nds (resS_num _ 0 0 0 0)); clear hgr hO11 hT11)
       clear r1 r2 r3 a0 a1 a2 a3 a4 a5 f0 f1 f2 f3 f4 f5 fl; refine HF1.out.ret rfl rfl rfl rfl ?_
       exact RRP.out ▸ HF1.out.refR (by rw [ndL_grow, HL8.out]; rfl)
end
theorem rspl_any (p : ByteArray) (w : World) (hp : p.size ≤ 1000000) : Calls Tryz.prog 82 #[.string p] w fun e w' => Below w.heap.size w w' ∧ (nms p = none → e = .returned (.tuple #[.slice none 0 0, .int .i64 20])) ∧
  (∀ ns, nms p = some ns → ∃ a k cc L, e = .returned (.tuple #[.slice a k cc, .int .i64 0]) ∧ ns = L.map tx ∧ Sts w' a k L ∧ k ≤ 1000000) := by
 refine (rsplit_any p w hp).mono ?_
 rintro e w2 ⟨hsp, hb⟩
 refine ⟨hb, fun h => ?_, fun ns h => ?_⟩
 ·cases hs : spl p.data.toList with
  | none => rw [hs] at hsp; exact hsp
  | some l => rw [nms_some hs] at h; cases h
 ·cases hs : spl p.data.toList with
  | none => rw [nms_none hs] at h; cases h
  | some l =>
   rw [hs] at hsp; rw [nms_some hs] at h; obtain ⟨v, he0, hO⟩ : ∃ v, e = .returned (.tuple #[v, .int .i64 0]) ∧ OwnT w2 w.heap.size v l.length l := hsp; obtain ⟨a, cc, rfl, hSt, hcc, hmx, hz, hlo⟩ := hO.sts
   exact ⟨a, l.length, cc, l, he0, (by cases h; rfl), hSt, by have := arP_len (spl_arP hs); omega⟩
theorem rlink_e {L : List Nd} {ns ms : List ByteArray} {e : Int} (h : wlk L 0 ns = .error e) : oLink L (some ns) (some ms) = (L, .bad e) := by simp [oLink, h]
theorem rlink_d {L : List Nd} {ns ms : List ByteArray} {k : Nat} (h : wlk L 0 ns = .ok k) (hd : isD (nat L k) = true) : oLink L (some ns) (some ms) = (L, .bad 23) := by simp [oLink, h, hd]
theorem rlink_r {L : List Nd} {ns : List ByteArray} {k : Nat} (h : wlk L 0 ns = .ok k) (hd : isD (nat L k) = false) : oLink L (some ns) (some []) = (L, .bad 24) := by simp [oLink, h, hd]
theorem rlink_t {L : List Nd} {ns ms : List ByteArray} {k : Nat} {e : Int} (h : wlk L 0 ns = .ok k) (hd : isD (nat L k) = false) (hm : ms ≠ []) (ht : toB L ms = .error e) : oLink L (some ns) (some ms) = (L, .bad e) := by simp [oLink, h, hd, hm, ht]
theorem rlink_x {L : List Nd} {ns ms : List ByteArray} {k a j : Nat} (h : wlk L 0 ns = .ok k) (hd : isD (nat L k) = false) (hm : ms ≠ []) (ht : toB L ms = .ok (a, some j)) : oLink L (some ns) (some ms) = (L, .bad 24) := by simp [oLink, h, hd, hm, ht]
theorem rlink_n {L : List Nd} {ns ms : List ByteArray} {k a : Nat} (h : wlk L 0 ns = .ok k) (hd : isD (nat L k) = false) (hm : ms ≠ []) (ht : toB L ms = .ok (a, none)) : oLink L (some ns) (some ms) = if 200 ≤ (nat L k).l then (L, .bad 26) else if 64 ≤ (nat L a).e.length then (L, .bad 27) else (putE L a (lstN ms) k, .ok) := by simp [oLink, h, hd, hm, ht]
section
variable {w : World} {n c : Nat} {na : Option Addr} {f : Nat → Nc} {o i m : Int} {p q : ByteArray} {da : Option Addr} {dn dc : Nat}
theorem rlink_any (hN : Nds w na n f) (ht : Rgt (ndL f n)) (hen : ∀ i, i < n → (f i).dn ≤ 1000000 ∧ (f i).en ≤ 100000) (hp : p.size ≤ 1000000) (hq : q.size ≤ 1000000) :
  Calls Tryz.prog 75 #[.agg #[.slice na n c], .agg #[.int .i64 o, .string p, .string q, .int .i64 i, .int .i64 m, .slice da dn dc]] w (RefR w (oLink (ndL f n) (nms p) (nms q))) := by
 obtain ⟨RR, hRR⟩ : ∃ RR, RR = oLink (ndL f n) (nms p) (nms q) := ⟨_, rfl⟩
 rw [← hRR]
 have HRR := qH hRR
 obtain ⟨x, hx⟩ : ∃ x, x = w.heap.size := ⟨_, rfl⟩
 obtain ⟨w4, hw4, hI⟩ := op_start w na n c o i m p q da dn dc
 rw [← hx] at hI
 have HI0 := qH hI
 have HX := qH hx
 have HW4 := qH hw4
 unfold ResZ at hw4
 have HT := qH ht
 have HEN := qH hen
 have hn56 : n ≤ 56 := ht.le.2
 clear hRR hI hx ht
 obtain ⟨b1, b2, b3, b4, b5, b6⟩ := HI0.out.op.cells
 have l1 := HI0.out.box.load
 have l2 := HI0.out.box.cell
 have hc := rspl_any p w4 hp
 cases hpn : nms p with
 | none =>
  have RRP : Hid (RR = (ndL f n, .bad 20)) := qH (HRR.out.trans (by rw [hpn]; rfl))
  go_enter Tryz.func75, Tryz.ntmps75
  go_wp2_with fail
  rw [← HX.out, ← hw4]
  refine hc.mono ?_
  rintro e w5 ⟨hb, hsp, -⟩
  obtain rfl := hsp hpn
  have HI := qH (HI0.out.next hb)
  clear hc hb b1 b2 b3 b4 b5 b6 l1 l2 hsp
  have hc := rspl_any q w5 hq
  obtain ⟨b1, b2, b3, b4, b5, b6⟩ := HI.out.op.cells
  have l1 := HI.out.box.load
  have l2 := HI.out.box.cell
  go_wp2_with fail
  refine hc.mono ?_
  rintro e w6 ⟨hb6, hs0, hs1⟩
  have HI6 := qH (HI.out.next hb6)
  clear hc hb6 b1 b2 b3 b4 b5 b6 l1 l2
  cases hqn : nms q with
  | none =>
   obtain rfl := hs0 hqn; clear hs0 hs1; go_wp2_with fail; refine wp_region_held_drew (S := (fun w' => TrB w' x (.slice na n c))) (by kernel_rfl) ?_ (fun hHeld => ?_)
   ·exact HI6.out.box
   refine rgZ 0 ?_ rfl (.inl ⟨by rfl, fun w hSw => ?_⟩) ?_ (by kernel_rfl) (fun _ _ _ h => h) (by assumption); rotate_left
   ·have hl := TrB.load hSw
    have hcl := TrB.cell hSw; go_simp
    try with_reducible rfl
   simp only [Act.put, rg]; refine rgC 1 rfl (by kernel_rfl) (fun K hK => ?_); simp only [rg4, rg5, rg6]; go_simp; refine (rwrong_any _ (20)).mono ?_; rintro e w7 ⟨rfl, hb7⟩; have HI7 := qH (HI6.out.next ((below_drewN (Below.refl _ _) 1).trans hb7)); have HN7 := qH (hN.next HI7.out.bel); clear hb7 hHeld; go_wp2_with fail; refine hK.out _ _ HI7.out.box (fun _ => ?_); clear hK K; obtain ⟨r1, r2, r3, ⟨a0, a1, a2, a3, a4, a5⟩, f0, f1, f2, f3, f4, f5, fl⟩ := HI7.out.all; have HF1 := qH (HI7.out.fin (cc := c) HN7.out (resS_num w7 (20) 0 0 0)); refine rgC 2 rfl (by kernel_rfl) (fun K hK => ?_); simp only [rg4, rg5, rg6]; go_simp; go_wp2_with fail; refine hK.out _ _ HI7.out.b1 (fun _ => ?_); clear hK K; refine rgC 3 rfl (by kernel_rfl) (fun K hK => ?_); simp only [rg4, rg5, rg6]; go_simp; go_wp2_with fail; refine hK.out _ _ HI7.out.b6 (fun _ => ?_); clear hK K; refine wpAnyH_done (by kernel_rfl) ?_ _; clear r1 r2 r3 a0 a1 a2 a3 a4 a5 f0 f1 f2 f3 f4 f5 fl; go_wp2_with fail; refine HF1.out.ret rfl rfl rfl rfl ?_
   exact RRP.out ▸ HF1.out.refR rfl
  | some ms =>
   obtain ⟨a2, k2, cc2, L2, rfl, hL2, hSt2, hk2⟩ := hs1 ms hqn; have HST2 := qH hSt2; have HMS := qH hL2; have HQN := qH hqn; clear hs0 hs1 hSt2 hL2 hqn; have b1 := HI6.out.op.cells; have l1 := HI6.out.box.load; have l2 := HI6.out.box.cell; obtain ⟨b1, b2, b3, b4, b5, b6⟩ := b1; go_wp2_with fail; refine wp_region_held_drew (S := (fun w' => TrB w' x (.slice na n c))) (by kernel_rfl) ?_ (fun hHeld => ?_)
   ·exact HI6.out.box
   refine rgZ 0 ?_ rfl (.inl ⟨by rfl, fun w hSw => ?_⟩) ?_ (by kernel_rfl) (fun _ _ _ h => h) (by assumption); rotate_left
   ·have hl := TrB.load hSw
    have hcl := TrB.cell hSw; go_simp
    try with_reducible rfl
   simp only [Act.put, rg]; refine rgC 1 rfl (by kernel_rfl) (fun K hK => ?_); simp only [rg4, rg5, rg6]; go_simp; refine (rwrong_any _ (20)).mono ?_; rintro e w7 ⟨rfl, hb7⟩; have HI7 := qH (HI6.out.next ((below_drewN (Below.refl _ _) 1).trans hb7)); have HN7 := qH (hN.next HI7.out.bel); clear hb7 hHeld; go_wp2_with fail; refine hK.out _ _ HI7.out.box (fun _ => ?_); clear hK K; obtain ⟨r1, r2, r3, ⟨a0, a1, a2, a3, a4, a5⟩, f0, f1, f2, f3, f4, f5, fl⟩ := HI7.out.all; have HF1 := qH (HI7.out.fin (cc := c) HN7.out (resS_num w7 (20) 0 0 0)); refine rgC 2 rfl (by kernel_rfl) (fun K hK => ?_); simp only [rg4, rg5, rg6]; go_simp; go_wp2_with fail; refine hK.out _ _ HI7.out.b1 (fun _ => ?_); clear hK K; refine rgC 3 rfl (by kernel_rfl) (fun K hK => ?_); simp only [rg4, rg5, rg6]; go_simp; go_wp2_with fail; refine hK.out _ _ HI7.out.b6 (fun _ => ?_); clear hK K; refine wpAnyH_done (by kernel_rfl) ?_ _; clear r1 r2 r3 a0 a1 a2 a3 a4 a5 f0 f1 f2 f3 f4 f5 fl; go_wp2_with fail; refine HF1.out.ret rfl rfl rfl rfl ?_
   exact RRP.out ▸ HF1.out.refR rfl
 | some ns =>
  have HPN := qH hpn
  go_enter Tryz.func75, Tryz.ntmps75
  go_wp2_with fail
  rw [← HX.out, ← hw4]
  refine hc.mono ?_
  rintro e w5 ⟨hb, -, hsp⟩
  obtain ⟨a1, k1, cc1, L1, rfl, hL1, hSt1, hk1⟩ := hsp ns hpn
  have HST1 := qH hSt1
  have HNS := qH hL1
  clear hSt1 hL1 hpn
  have HI := qH (HI0.out.next hb)
  clear hc hb b1 b2 b3 b4 b5 b6 l1 l2 hsp
  have hc := rspl_any q w5 hq
  obtain ⟨b1, b2, b3, b4, b5, b6⟩ := HI.out.op.cells
  have l1 := HI.out.box.load
  have l2 := HI.out.box.cell
  go_wp2_with fail
  refine hc.mono ?_
  rintro e w6 ⟨hb6, hs0, hs1⟩
  have HI6 := qH (HI.out.next hb6)
  clear hc hb6 b1 b2 b3 b4 b5 b6 l1 l2
  cases hqn : nms q with
  | none =>
   have RRP : Hid (RR = (ndL f n, .bad 20)) := qH (HRR.out.trans (by rw [HPN.out, hqn]; rfl)); obtain rfl := hs0 hqn; clear hs0 hs1; go_wp2_with fail; refine wp_region_held_drew (S := (fun w' => TrB w' x (.slice na n c))) (by kernel_rfl) ?_ (fun hHeld => ?_)
   ·exact HI6.out.box
   refine rgZ 0 ?_ rfl (.inl ⟨by rfl, fun w hSw => ?_⟩) ?_ (by kernel_rfl) (fun _ _ _ h => h) (by assumption); rotate_left
   ·have hl := TrB.load hSw
    have hcl := TrB.cell hSw; go_simp
    try with_reducible rfl
   simp only [Act.put, rg]; refine rgC 1 rfl (by kernel_rfl) (fun K hK => ?_); simp only [rg4, rg5, rg6]; go_simp; refine (rwrong_any _ (20)).mono ?_; rintro e w7 ⟨rfl, hb7⟩; have HI7 := qH (HI6.out.next ((below_drewN (Below.refl _ _) 1).trans hb7)); have HN7 := qH (hN.next HI7.out.bel); clear hb7 hHeld; go_wp2_with fail; refine hK.out _ _ HI7.out.box (fun _ => ?_); clear hK K; obtain ⟨r1, r2, r3, ⟨a0, a1, a2, a3, a4, a5⟩, f0, f1, f2, f3, f4, f5, fl⟩ := HI7.out.all; have HF1 := qH (HI7.out.fin (cc := c) HN7.out (resS_num w7 (20) 0 0 0)); refine rgC 2 rfl (by kernel_rfl) (fun K hK => ?_); simp only [rg4, rg5, rg6]; go_simp; go_wp2_with fail; refine hK.out _ _ HI7.out.b1 (fun _ => ?_); clear hK K; refine rgC 3 rfl (by kernel_rfl) (fun K hK => ?_); simp only [rg4, rg5, rg6]; go_simp; go_wp2_with fail; refine hK.out _ _ HI7.out.b6 (fun _ => ?_); clear hK K; refine wpAnyH_done (by kernel_rfl) ?_ _; clear r1 r2 r3 a0 a1 a2 a3 a4 a5 f0 f1 f2 f3 f4 f5 fl; go_wp2_with fail; refine HF1.out.ret rfl rfl rfl rfl ?_
   exact RRP.out ▸ HF1.out.refR rfl
  | some ms =>
   obtain ⟨a2, k2, cc2, L2, rfl, hL2, hSt2, hk2⟩ := hs1 ms hqn; have HST2 := qH hSt2; have HMS := qH hL2; have HQN := qH hqn; clear hs0 hs1 hSt2 hL2 hqn; have b1 := HI6.out.op.cells; have l1 := HI6.out.box.load; have l2 := HI6.out.box.cell; obtain ⟨b1, b2, b3, b4, b5, b6⟩ := b1; go_wp2_with fail; have hc := rfindP_any (c := c) (hN.next HI6.out.bel) HT.out (fun i hi => by have := (HEN.out i hi).2; omega) p hp; rw [HPN.out] at hc; have hfo : findO (ndL f n) (some ns) = wlk (ndL f n) 0 ns := rfl; rw [hfo] at hc; clear hfo b1 b2 b3 b4 b5 b6 l1 l2; refine hc.mono ?_; rintro e w7 ⟨rfl, hb7⟩; have HI7 := qH (HI6.out.next hb7); clear hc hb7; have HRL : Hid (RR = oLink (ndL f n) (some ns) (some ms)) := qH (by rw [← HPN.out, ← HQN.out]; exact HRR.out); have b1 := HI7.out.op.cells; have l1 := HI7.out.box.load; have l2 := HI7.out.box.cell; obtain ⟨b1, b2, b3, b4, b5, b6⟩ := b1
   cases hw : wlk (ndL f n) 0 ns with
   | error e9 =>
    have RRP : Hid (RR = (ndL f n, .bad e9)) := qH (HRL.out.trans (rlink_e hw))
    have he9 : (e9 != 0) = true := by have := wlk_err0 hw; simpa using this
    dsimp only [wlkP]; clear hw; go_wp2_with fail; refine wp_region_held_drew (S := (fun w' => TrB w' x (.slice na n c))) (by kernel_rfl) ?_ (fun hHeld => ?_)
    ·exact HI7.out.box
    refine rgZ 0 ?_ rfl (.inl ⟨by rfl, fun w hSw => ?_⟩) ?_ (by kernel_rfl) (fun _ _ _ h => h) (by assumption); rotate_left
    ·have hl := TrB.load hSw
     have hcl := TrB.cell hSw; go_simp
     try with_reducible rfl
    simp only [Act.put, rg]; refine rgZ 1 ?_ rfl (.inl ⟨by rfl, fun w hSw => ?_⟩) ?_ (by kernel_rfl) (fun _ _ _ h => h) (by assumption); rotate_left
    ·(try dsimp only at hSw); go_simp; try with_reducible rfl
    simp only [Act.put, rg]; refine rgC 2 rfl (by kernel_rfl) (fun K hK => ?_); simp only [rg4, rg5, rg6]; go_simp; refine (rwrong_any _ (e9)).mono ?_; rintro e w9 ⟨rfl, hb7⟩; have HI7 := qH (HI7.out.next ((below_drewN (Below.refl _ _) 1).trans hb7)); have HN7 := qH (hN.next HI7.out.bel); clear hb7 hHeld; go_wp2_with fail; refine hK.out _ _ HI7.out.box (fun _ => ?_); clear hK K; obtain ⟨r1, r2, r3, ⟨a0, a1, a2, a3, a4, a5⟩, f0, f1, f2, f3, f4, f5, fl⟩ := HI7.out.all; have HF1 := qH (HI7.out.fin (cc := c) HN7.out (resS_num w9 (e9) 0 0 0)); refine rgC 3 rfl (by kernel_rfl) (fun K hK => ?_); simp only [rg4, rg5, rg6]; go_simp; go_wp2_with fail; refine hK.out _ _ HI7.out.b1 (fun _ => ?_); clear hK K; refine rgC 4 rfl (by kernel_rfl) (fun K hK => ?_); simp only [rg4, rg5, rg6]; go_simp; go_wp2_with fail; refine hK.out _ _ HI7.out.b6 (fun _ => ?_); clear hK K; refine wpAnyH_done (by kernel_rfl) ?_ _; clear r1 r2 r3 a0 a1 a2 a3 a4 a5 f0 f1 f2 f3 f4 f5 fl; go_wp2_with fail; refine HF1.out.ret rfl rfl rfl rfl ?_
    exact RRP.out ▸ HF1.out.refR rfl
   | ok k =>
    have hk : k < n := lt_wlk HT.out hw; have HK := qH hk; have HW := qH hw; have hnr := hN.next HI7.out.bel; obtain ⟨nb, off, rfl, hbl, d0, d1, d2, d3⟩ := hnr.at hk
    have k0 : (0 : Int) ≤ (k : Int) := by omega
    have k1' : (k : Int) < (n : Int) := by omega
    have hnk : nat (ndL f n) k = (f k).nd := nat_ndL hk; have HNK := qH hnk; dsimp only [wlkP]; clear hnr hnk hw
    cases hd : isD (f k).nd with
    | true =>
     have hd2 : ((f k).k == 2) = true := hd; have RRP : Hid (RR = (ndL f n, .bad 23)) := qH (HRL.out.trans (rlink_d HW.out (by rw [HNK.out]; exact hd))); clear hd; go_wp2_with fail; refine wp_region_held_drew (S := (fun w' => TrB w' x (.slice (some ⟨nb, off, none⟩) n c))) (by kernel_rfl) ?_ (fun hHeld => ?_)
     ·exact HI7.out.box
     refine rgZ 0 ?_ rfl (.inl ⟨by rfl, fun w hSw => ?_⟩) ?_ (by kernel_rfl) (fun _ _ _ h => h) (by assumption); rotate_left
     ·have hl := TrB.load hSw
      have hcl := TrB.cell hSw; go_simp
      try with_reducible rfl
     simp only [Act.put, rg]; refine rgC 1 rfl (by kernel_rfl) (fun K hK => ?_); simp only [rg4, rg5, rg6]; go_simp; refine (rwrong_any _ (23)).mono ?_; rintro e w9 ⟨rfl, hb7⟩; have HI7 := qH (HI7.out.next ((below_drewN (Below.refl _ _) 1).trans hb7)); have HN7 := qH (hN.next HI7.out.bel); clear hb7 hHeld; go_wp2_with fail; refine hK.out _ _ HI7.out.box (fun _ => ?_); clear hK K; obtain ⟨r1, r2, r3, ⟨a0, a1, a2, a3, a4, a5⟩, f0, f1, f2, f3, f4, f5, fl⟩ := HI7.out.all; have HF1 := qH (HI7.out.fin (cc := c) HN7.out (resS_num w9 (23) 0 0 0)); refine rgC 2 rfl (by kernel_rfl) (fun K hK => ?_); simp only [rg4, rg5, rg6]; go_simp; go_wp2_with fail; refine hK.out _ _ HI7.out.b1 (fun _ => ?_); clear hK K; refine rgC 3 rfl (by kernel_rfl) (fun K hK => ?_); simp only [rg4, rg5, rg6]; go_simp; go_wp2_with fail; refine hK.out _ _ HI7.out.b6 (fun _ => ?_); clear hK K; refine wpAnyH_done (by kernel_rfl) ?_ _; clear r1 r2 r3 a0 a1 a2 a3 a4 a5 f0 f1 f2 f3 f4 f5 fl; go_wp2_with fail; refine HF1.out.ret rfl rfl rfl rfl ?_
     exact RRP.out ▸ HF1.out.refR rfl
    | false =>
     have hd2 : ((f k).k == 2) = false := hd; have HD := qH (show isD (nat (ndL f n) k) = false by rw [HNK.out]; exact hd); clear hd
     by_cases hms : ms = []
     ·have RRP : Hid (RR = (ndL f n, .bad 24)) := qH (HRL.out.trans (by rw [hms]; exact rlink_r HW.out HD.out))
      have h47 : (q.toList == [47]) = true := root_yes (HQN.out.trans (by rw [hms])); clear hms; go_wp2_with fail; refine wp_region_held_drew (S := (fun w' => TrB w' x (.slice (some ⟨nb, off, none⟩) n c))) (by kernel_rfl) ?_ (fun hHeld => ?_)
      ·exact HI7.out.box
      refine rgZ 0 ?_ rfl (.inl ⟨by rfl, fun w hSw => ?_⟩) ?_ (by kernel_rfl) (fun _ _ _ h => h) (by assumption); rotate_left
      ·have hl := TrB.load hSw
       have hcl := TrB.cell hSw; go_simp
       try with_reducible rfl
      simp only [Act.put, rg]; refine rgC 1 rfl (by kernel_rfl) (fun K hK => ?_); simp only [rg4, rg5, rg6]; go_simp; refine (rwrong_any _ (24)).mono ?_; rintro e w9 ⟨rfl, hb7⟩; have HI7 := qH (HI7.out.next ((below_drewN (Below.refl _ _) 1).trans hb7)); have HN7 := qH (hN.next HI7.out.bel); clear hb7 hHeld; go_wp2_with fail; refine hK.out _ _ HI7.out.box (fun _ => ?_); clear hK K; obtain ⟨r1, r2, r3, ⟨a0, a1, a2, a3, a4, a5⟩, f0, f1, f2, f3, f4, f5, fl⟩ := HI7.out.all; have HF1 := qH (HI7.out.fin (cc := c) HN7.out (resS_num w9 (24) 0 0 0)); refine rgC 2 rfl (by kernel_rfl) (fun K hK => ?_); simp only [rg4, rg5, rg6]; go_simp; go_wp2_with fail; refine hK.out _ _ HI7.out.b1 (fun _ => ?_); clear hK K; refine rgC 3 rfl (by kernel_rfl) (fun K hK => ?_); simp only [rg4, rg5, rg6]; go_simp; go_wp2_with fail; refine hK.out _ _ HI7.out.b6 (fun _ => ?_); clear hK K; refine wpAnyH_done (by kernel_rfl) ?_ _; clear r1 r2 r3 a0 a1 a2 a3 a4 a5 f0 f1 f2 f3 f4 f5 fl; go_wp2_with fail; refine HF1.out.ret rfl rfl rfl rfl ?_
      exact RRP.out ▸ HF1.out.refR rfl
     ·have h47 : (q.toList == [47]) = false := root_no (by rw [HQN.out]; simpa using hms)
      have hto := to_any (c := c) (hN.next HI7.out.bel) HT.out (fun i hi => by have := (HEN.out i hi).2; omega) q hq (by rw [HQN.out]; simpa using hms); rw [HQN.out] at hto; dsimp only at hto; have HNE := qH hms; clear hms
      cases ht : toB (ndL f n) ms with
      | error e9 =>
       have RRP : Hid (RR = (ndL f n, .bad e9)) := qH (HRL.out.trans (rlink_t HW.out HD.out HNE.out ht))
       have hne9 : (e9 != 0) = true := by have := toB_err ht; simpa using this
       rw [ht] at hto; dsimp only [toP] at hto; clear ht; go_wp2_with fail; refine hto.mono ?_; rintro e w8 ⟨rfl, hb8⟩; have HI8 := qH (HI7.out.next hb8); clear hto hb8 b1 b2 b3 b4 b5 b6 l1 l2 d0 d1 d2 d3 k0 k1'; have b1 := HI8.out.op.cells; have l1 := HI8.out.box.load; have l2 := HI8.out.box.cell; obtain ⟨b1, b2, b3, b4, b5, b6⟩ := b1; go_wp2_with fail; refine wp_region_held_drew (S := (fun w' => TrB w' x (.slice (some ⟨nb, off, none⟩) n c))) (by kernel_rfl) ?_ (fun hHeld => ?_)
       ·exact HI8.out.box
       refine rgZ 0 ?_ rfl (.inl ⟨by rfl, fun w hSw => ?_⟩) ?_ (by kernel_rfl) (fun _ _ _ h => h) (by assumption); rotate_left
       ·have hl := TrB.load hSw
        have hcl := TrB.cell hSw; go_simp
        try with_reducible rfl
       simp only [Act.put, rg]; refine rgZ 1 ?_ rfl (.inl ⟨by rfl, fun w hSw => ?_⟩) ?_ (by kernel_rfl) (fun _ _ _ h => h) (by assumption); rotate_left
       ·(try dsimp only at hSw); go_simp; try with_reducible rfl
       simp only [Act.put, rg]; refine rgC 2 rfl (by kernel_rfl) (fun K hK => ?_); simp only [rg4, rg5, rg6]; go_simp; refine (rwrong_any _ (e9)).mono ?_; rintro e w9 ⟨rfl, hb7⟩; have HI7 := qH (HI8.out.next ((below_drewN (Below.refl _ _) 1).trans hb7)); have HN7 := qH (hN.next HI7.out.bel); clear hb7 hHeld; go_wp2_with fail; refine hK.out _ _ HI7.out.box (fun _ => ?_); clear hK K; obtain ⟨r1, r2, r3, ⟨a0, a1, a2, a3, a4, a5⟩, f0, f1, f2, f3, f4, f5, fl⟩ := HI7.out.all; have HF1 := qH (HI7.out.fin (cc := c) HN7.out (resS_num w9 (e9) 0 0 0)); refine rgC 3 rfl (by kernel_rfl) (fun K hK => ?_); simp only [rg4, rg5, rg6]; go_simp; go_wp2_with fail; refine hK.out _ _ HI7.out.b1 (fun _ => ?_); clear hK K; refine rgC 4 rfl (by kernel_rfl) (fun K hK => ?_); simp only [rg4, rg5, rg6]; go_simp; go_wp2_with fail; refine hK.out _ _ HI7.out.b6 (fun _ => ?_); clear hK K; refine wpAnyH_done (by kernel_rfl) ?_ _; clear r1 r2 r3 a0 a1 a2 a3 a4 a5 f0 f1 f2 f3 f4 f5 fl; go_wp2_with fail; refine HF1.out.ret rfl rfl rfl rfl ?_
       exact RRP.out ▸ HF1.out.refR rfl
      | ok ao =>
       obtain ⟨a, o9⟩ := ao; have ha : a < n := lt_wlk HT.out (toB_ok ht).1; have HA := qH ha; have HTB := qH ht; rw [ht] at hto; clear ht
       cases o9 with
       | some j =>
        have RRP : Hid (RR = (ndL f n, .bad 24)) := qH (HRL.out.trans (rlink_x HW.out HD.out HNE.out HTB.out))
        have hk0 : (0 : Int) ≤ (j : Int) := by omega
        dsimp only [toP] at hto; go_wp2_with fail; refine hto.mono ?_; rintro e w8 ⟨rfl, hb8⟩; have HI8 := qH (HI7.out.next hb8); clear hto hb8 b1 b2 b3 b4 b5 b6 l1 l2 d0 d1 d2 d3 k0 k1'; have b1 := HI8.out.op.cells; have l1 := HI8.out.box.load; have l2 := HI8.out.box.cell; obtain ⟨b1, b2, b3, b4, b5, b6⟩ := b1; go_wp2_with fail; refine wp_region_held_drew (S := (fun w' => TrB w' x (.slice (some ⟨nb, off, none⟩) n c))) (by kernel_rfl) ?_ (fun hHeld => ?_)
        ·exact HI8.out.box
        refine rgZ 0 ?_ rfl (.inl ⟨by rfl, fun w hSw => ?_⟩) ?_ (by kernel_rfl) (fun _ _ _ h => h) (by assumption); rotate_left
        ·have hl := TrB.load hSw
         have hcl := TrB.cell hSw; go_simp
         try with_reducible rfl
        simp only [Act.put, rg]; refine rgC 1 rfl (by kernel_rfl) (fun K hK => ?_); simp only [rg4, rg5, rg6]; go_simp; refine (rwrong_any _ (24)).mono ?_; rintro e w9 ⟨rfl, hb7⟩; have HI7 := qH (HI8.out.next ((below_drewN (Below.refl _ _) 1).trans hb7)); have HN7 := qH (hN.next HI7.out.bel); clear hb7 hHeld; go_wp2_with fail; refine hK.out _ _ HI7.out.box (fun _ => ?_); clear hK K; obtain ⟨r1, r2, r3, ⟨a0, a1, a2, a3, a4, a5⟩, f0, f1, f2, f3, f4, f5, fl⟩ := HI7.out.all; have HF1 := qH (HI7.out.fin (cc := c) HN7.out (resS_num w9 (24) 0 0 0)); refine rgC 2 rfl (by kernel_rfl) (fun K hK => ?_); simp only [rg4, rg5, rg6]; go_simp; go_wp2_with fail; refine hK.out _ _ HI7.out.b1 (fun _ => ?_); clear hK K; refine rgC 3 rfl (by kernel_rfl) (fun K hK => ?_); simp only [rg4, rg5, rg6]; go_simp; go_wp2_with fail; refine hK.out _ _ HI7.out.b6 (fun _ => ?_); clear hK K; refine wpAnyH_done (by kernel_rfl) ?_ _; clear r1 r2 r3 a0 a1 a2 a3 a4 a5 f0 f1 f2 f3 f4 f5 fl; go_wp2_with fail; refine HF1.out.ret rfl rfl rfl rfl ?_
        exact RRP.out ▸ HF1.out.refR rfl
       | none =>
        have hrn := rlink_n HW.out HD.out HNE.out HTB.out; rw [← HRL.out, HNK.out, nat_ndL ha] at hrn; have HRN := qH hrn; have hlen : (f a).nd.e.length = (f a).en := ((hN.ents a ha).ens).len; have HLE := qH hlen; clear hrn hlen; dsimp only [toP] at hto; go_wp2_with fail; refine hto.mono ?_; rintro e w8 ⟨rfl, hb8⟩; have HI8 := qH (HI7.out.next hb8); clear hto hb8 b1 b2 b3 b4 b5 b6 l1 l2 d0 d1 d2 d3 k0 k1'; have b1 := HI8.out.op.cells; have l1 := HI8.out.box.load; have l2 := HI8.out.box.cell; obtain ⟨b1, b2, b3, b4, b5, b6⟩ := b1; obtain ⟨_, _, h9, hbl7, d0, d1, d2, d3⟩ := (hN.next HI8.out.bel).at HK.out
        cases h9
        obtain ⟨_, _, h9, hbl8, g0, g1, g2, g3⟩ := (hN.next HI8.out.bel).at ha
        cases h9
        have k0 : (0 : Int) ≤ (k : Int) := by omega
        have k1' : (k : Int) < (n : Int) := by have := HK.out; omega
        have i0 : (0 : Int) ≤ (a : Int) := by omega
        have i1 : (a : Int) < (n : Int) := by omega
        by_cases h200 : 200 ≤ (f k).l
        ·have RRP : Hid (RR = (ndL f n, .bad 26)) := qH (HRN.out.trans (if_pos h200))
         go_wp2_with fail; refine wp_region_held_drew (S := (fun w' => TrB w' x (.slice (some ⟨nb, off, none⟩) n c))) (by kernel_rfl) ?_ (fun hHeld => ?_)
         ·exact HI8.out.box
         refine rgZ 0 ?_ rfl (.inl ⟨by rfl, fun w hSw => ?_⟩) ?_ (by kernel_rfl) (fun _ _ _ h => h) (by assumption); rotate_left
         ·have hl := TrB.load hSw
          have hcl := TrB.cell hSw; go_simp
          try with_reducible rfl
         simp only [Act.put, rg]; refine rgC 1 rfl (by kernel_rfl) (fun K hK => ?_); simp only [rg4, rg5, rg6]; go_simp; refine (rwrong_any _ (26)).mono ?_; rintro e w9 ⟨rfl, hb7⟩; have HI7 := qH (HI8.out.next ((below_drewN (Below.refl _ _) 1).trans hb7)); have HN7 := qH (hN.next HI7.out.bel); clear hb7 hHeld; go_wp2_with fail; refine hK.out _ _ HI7.out.box (fun _ => ?_); clear hK K; obtain ⟨r1, r2, r3, ⟨a0, a1, a2, a3, a4, a5⟩, f0, f1, f2, f3, f4, f5, fl⟩ := HI7.out.all; have HF1 := qH (HI7.out.fin (cc := c) HN7.out (resS_num w9 (26) 0 0 0)); refine rgC 2 rfl (by kernel_rfl) (fun K hK => ?_); simp only [rg4, rg5, rg6]; go_simp; go_wp2_with fail; refine hK.out _ _ HI7.out.b1 (fun _ => ?_); clear hK K; refine rgC 3 rfl (by kernel_rfl) (fun K hK => ?_); simp only [rg4, rg5, rg6]; go_simp; go_wp2_with fail; refine hK.out _ _ HI7.out.b6 (fun _ => ?_); clear hK K; refine wpAnyH_done (by kernel_rfl) ?_ _; clear r1 r2 r3 a0 a1 a2 a3 a4 a5 f0 f1 f2 f3 f4 f5 fl; go_wp2_with fail; refine HF1.out.ret rfl rfl rfl rfl ?_
         exact RRP.out ▸ HF1.out.refR rfl
        ·by_cases h64 : 64 ≤ (f a).en
         ·have h64i : (64 : Int) ≤ ((f a).en : Int) := by omega
          have RRP : Hid (RR = (ndL f n, .bad 27)) := qH (HRN.out.trans ((if_neg h200).trans (if_pos (by have := HLE.out; omega)))); have H64 := qH h64; clear h64; go_wp2_with fail; refine wp_region_held_drew (S := (fun w' => TrB w' x (.slice (some ⟨nb, off, none⟩) n c))) (by kernel_rfl) ?_ (fun hHeld => ?_)
          ·exact HI8.out.box
          refine rgZ 0 ?_ rfl (.inl ⟨by rfl, fun w hSw => ?_⟩) ?_ (by kernel_rfl) (fun _ _ _ h => h) (by assumption); rotate_left
          ·have hl := TrB.load hSw
           have hcl := TrB.cell hSw; go_simp
           try with_reducible rfl
          simp only [Act.put, rg]; refine rgC 1 rfl (by kernel_rfl) (fun K hK => ?_); simp only [rg4, rg5, rg6]; go_simp; refine (rwrong_any _ (27)).mono ?_; rintro e w9 ⟨rfl, hb7⟩; have HI7 := qH (HI8.out.next ((below_drewN (Below.refl _ _) 1).trans hb7)); have HN7 := qH (hN.next HI7.out.bel); clear hb7 hHeld; go_wp2_with fail; refine hK.out _ _ HI7.out.box (fun _ => ?_); clear hK K; obtain ⟨r1, r2, r3, ⟨a0, a1, a2, a3, a4, a5⟩, f0, f1, f2, f3, f4, f5, fl⟩ := HI7.out.all; have HF1 := qH (HI7.out.fin (cc := c) HN7.out (resS_num w9 (27) 0 0 0)); refine rgC 2 rfl (by kernel_rfl) (fun K hK => ?_); simp only [rg4, rg5, rg6]; go_simp; go_wp2_with fail; refine hK.out _ _ HI7.out.b1 (fun _ => ?_); clear hK K; refine rgC 3 rfl (by kernel_rfl) (fun K hK => ?_); simp only [rg4, rg5, rg6]; go_simp; go_wp2_with fail; refine hK.out _ _ HI7.out.b6 (fun _ => ?_); clear hK K; refine wpAnyH_done (by kernel_rfl) ?_ _; clear r1 r2 r3 a0 a1 a2 a3 a4 a5 f0 f1 f2 f3 f4 f5 fl; go_wp2_with fail; refine HF1.out.ret rfl rfl rfl rfl ?_
          exact RRP.out ▸ HF1.out.refR rfl
         ·have h64i : ¬ (64 : Int) ≤ ((f a).en : Int) := by omega
          have RRP : Hid (RR = (putE (ndL f n) a (lstN ms) k, .ok)) := qH (HRN.out.trans ((if_neg h200).trans (if_neg (by have := HLE.out; omega)))); have H64 := qH h64; clear h64; have hc := rputN_any (c := c) (hN.next HI8.out.bel) (by omega) HEN.out a k HA.out (lstN ms); go_wp2_with fail; refine hc.mono ?_; rintro e w9 ⟨v, k9, g, rfl, hO, hL, hfresh, hb9⟩; have HI9 := qH (HI8.out.next hb9); clear hc hb9 hfresh l1 l2 b1 b2 b3 b4 b5 b6 d0 d1 d2 d3 g0 g1 g2 g3; obtain ⟨a9, c9, rfl⟩ := OwN.slice hO; have HN7 := qH (OwN.nds hO); have HL7 := qH hL; clear hO hL; obtain ⟨r1, r2, r3, ⟨a0, a1, a2, a3, a4, a5⟩, f0, f1, f2, f3, f4, f5, fl⟩ := HI9.out.all; have HF1 := qH (HI9.out.fin (cc := c9) HN7.out (resS_num w9 0 0 0 0)); go_wp2_with fail; clear r1 r2 r3 a0 a1 a2 a3 a4 a5 f0 f1 f2 f3 f4 f5 fl; refine HF1.out.ret rfl rfl rfl rfl ?_
          exact RRP.out ▸ HF1.out.refR HL7.out
end
end Go.Proofs.YtinholnidchblaaGreatDoor
