import Derived.Test.YtinholnidchblaaGreatDoorZk
import Derived.Test.YtinholnidchblaaGreatDoorQay
import Derived.Test.YtinholnidchblaaGreatDoorZt
import Derived.Test.YtinholnidchblaaGreatDoorZu
import Derived.Test.YtinholnidchblaaGreatDoorQau
import Derived.Test.YtinholnidchblaaGreatDoorQar
set_option linter.unusedVariables false
set_option linter.unusedSimpArgs false
set_option maxRecDepth 100000
set_option maxHeartbeats 16000000
namespace Go.Proofs.YtinholnidchblaaGreatDoor
open Go.RowKit
theorem oAny_13 (L : List Nd) (P Q : Option (List ByteArray)) (i n : Int) (z : List Int) : oAny L 13 P Q i n z = (L, oAsk L 13 P) := rfl
theorem oAny_10 (L : List Nd) (P Q : Option (List ByteArray)) (i n : Int) (z : List Int) : oAny L 10 P Q i n z = (L, oAsk L 10 P) := rfl
theorem oAny_11 (L : List Nd) (P Q : Option (List ByteArray)) (i n : Int) (z : List Int) : oAny L 11 P Q i n z = (L, oAsk L 11 P) := rfl
theorem oAny_else {o : Int} (h : ∀ k : Int, 1 ≤ k → k ≤ 13 → o ≠ k) (L : List Nd) (P Q : Option (List ByteArray)) (i n : Int) (z : List Int) : oAny L o P Q i n z = (L, .bad 30) := by
 unfold oAny
 rw [if_neg (h 1 (by decide) (by decide)), if_neg (h 2 (by decide) (by decide)), if_neg (h 3 (by decide) (by decide)), if_neg (h 4 (by decide) (by decide)), if_neg (h 5 (by decide) (by decide)), if_neg (h 6 (by decide) (by decide)), if_neg (h 7 (by decide) (by decide)),
  if_neg (h 8 (by decide) (by decide)), if_neg (h 9 (by decide) (by decide)), if_neg (fun k => k.elim (h 10 (by decide) (by decide)) fun k => k.elim (h 11 (by decide) (by decide)) (h 13 (by decide) (by decide))), if_neg (h 12 (by decide) (by decide))]
section
variable {w : World} {n c : Nat} {na : Option Addr} {f : Nat → Nc} {o i m : Int} {p q : ByteArray} {da : Option Addr} {dn dc : Nat} {zs : List Int}
theorem rdo_1 (hN : Nds w na n f) (ht : Rgt (ndL f n)) (hen : ∀ i, i < n → (f i).dn ≤ 1000000 ∧ (f i).en ≤ 100000) (hp : p.size ≤ 1000000) (hq : q.size ≤ 1000000) (hzp : Pin w da dn dc zs) (hdn : dn ≤ 1000000)  :
  Calls Tryz.prog 42 #[.agg #[.slice na n c], .agg #[.int .i64 1, .string p, .string q, .int .i64 i, .int .i64 m, .slice da dn dc]] w (RefR w (oAny (ndL f n) 1 (nms p) (nms q) i m zs)) := by
 obtain ⟨RR, hRR⟩ : ∃ RR, RR = oAny (ndL f n) 1 (nms p) (nms q) i m zs := ⟨_, rfl⟩
 rw [← hRR]
 have HRR := qH hRR
 obtain ⟨x, hx⟩ : ∃ x, x = w.heap.size := ⟨_, rfl⟩
 obtain ⟨w4, hw4, hI⟩ := op_start w na n c 1 i m p q da dn dc
 rw [← hx] at hI
 have HI0 := qH hI
 have HX := qH hx
 have HW4 := qH hw4
 unfold ResZ at hw4
 have HT := qH ht
 have HEN := qH hen
 have hn56 : n ≤ 56 := ht.le.2
 clear hRR hI hx ht
 have HZP := qH hzp
 obtain ⟨b1, b2, b3, b4, b5, b6⟩ := HI0.out.op.cells
 have l1 := HI0.out.box.load
 have l2 := HI0.out.box.cell
 have l3 := HI0.out.op.load
 have hc : Calls Tryz.prog 74 #[.agg #[.slice na n c], .agg #[.int .i64 1, .string p, .string q, .int .i64 i, .int .i64 m, .slice da dn dc]] w4 (RefR w4 (oNew (ndL f n) false (nms p))) := create_any (c := c) false (hN.next HI0.out.bel) HT.out HEN.out hp rfl
 have hrr : oAny (ndL f n) 1 (nms p) (nms q) i m zs = oNew (ndL f n) false (nms p) := rfl
 rw [← hrr, ← HRR.out] at hc
 clear hrr
 go_enter Tryz.func42, Tryz.ntmps42
 go_wp2_with fail
 rw [← HX.out, ← hw4]
 clear hw4
 refine hc.mono ?_
 rintro e w7 ⟨a9, c9, n9, g9, ea, en, ec, ma, mn, mc, Ls, rfl, hN9, hL9, hS9, hb7⟩
 have HI7 := qH (HI0.out.next hb7)
 have HL9 := qH hL9
 have HF1 := qH (HI7.out.fin (cc := c9) hN9 hS9)
 clear hc hN9 hL9 hS9 hb7 b1 b2 b3 b4 b5 b6 l1 l2 l3
 obtain ⟨r1, r2, r3, ⟨a0, a1, a2, a3, a4, a5⟩, f0, f1, f2, f3, f4, f5, fl⟩ := HI7.out.all
 go_wp2_with fail
 clear r1 r2 r3 a0 a1 a2 a3 a4 a5 f0 f1 f2 f3 f4 f5 fl
 refine HF1.out.ret rfl rfl rfl rfl ?_
 exact HF1.out.refR HL9.out
theorem rdo_2 (hN : Nds w na n f) (ht : Rgt (ndL f n)) (hen : ∀ i, i < n → (f i).dn ≤ 1000000 ∧ (f i).en ≤ 100000) (hp : p.size ≤ 1000000) (hq : q.size ≤ 1000000) (hzp : Pin w da dn dc zs) (hdn : dn ≤ 1000000)  :
  Calls Tryz.prog 42 #[.agg #[.slice na n c], .agg #[.int .i64 2, .string p, .string q, .int .i64 i, .int .i64 m, .slice da dn dc]] w (RefR w (oAny (ndL f n) 2 (nms p) (nms q) i m zs)) := by
 obtain ⟨RR, hRR⟩ : ∃ RR, RR = oAny (ndL f n) 2 (nms p) (nms q) i m zs := ⟨_, rfl⟩
 rw [← hRR]
 have HRR := qH hRR
 obtain ⟨x, hx⟩ : ∃ x, x = w.heap.size := ⟨_, rfl⟩
 obtain ⟨w4, hw4, hI⟩ := op_start w na n c 2 i m p q da dn dc
 rw [← hx] at hI
 have HI0 := qH hI
 have HX := qH hx
 have HW4 := qH hw4
 unfold ResZ at hw4
 have HT := qH ht
 have HEN := qH hen
 have hn56 : n ≤ 56 := ht.le.2
 clear hRR hI hx ht
 have HZP := qH hzp
 obtain ⟨b1, b2, b3, b4, b5, b6⟩ := HI0.out.op.cells
 have l1 := HI0.out.box.load
 have l2 := HI0.out.box.cell
 have l3 := HI0.out.op.load
 have hc : Calls Tryz.prog 74 #[.agg #[.slice na n c], .agg #[.int .i64 2, .string p, .string q, .int .i64 i, .int .i64 m, .slice da dn dc]] w4 (RefR w4 (oNew (ndL f n) true (nms p))) := create_any (c := c) true (hN.next HI0.out.bel) HT.out HEN.out hp rfl
 have hrr : oAny (ndL f n) 2 (nms p) (nms q) i m zs = oNew (ndL f n) true (nms p) := rfl
 rw [← hrr, ← HRR.out] at hc
 clear hrr
 go_enter Tryz.func42, Tryz.ntmps42
 go_wp2_with fail
 rw [← HX.out, ← hw4]
 clear hw4
 refine hc.mono ?_
 rintro e w7 ⟨a9, c9, n9, g9, ea, en, ec, ma, mn, mc, Ls, rfl, hN9, hL9, hS9, hb7⟩
 have HI7 := qH (HI0.out.next hb7)
 have HL9 := qH hL9
 have HF1 := qH (HI7.out.fin (cc := c9) hN9 hS9)
 clear hc hN9 hL9 hS9 hb7 b1 b2 b3 b4 b5 b6 l1 l2 l3
 obtain ⟨r1, r2, r3, ⟨a0, a1, a2, a3, a4, a5⟩, f0, f1, f2, f3, f4, f5, fl⟩ := HI7.out.all
 go_wp2_with fail
 clear r1 r2 r3 a0 a1 a2 a3 a4 a5 f0 f1 f2 f3 f4 f5 fl
 refine HF1.out.ret rfl rfl rfl rfl ?_
 exact HF1.out.refR HL9.out
theorem rdo_3 (hN : Nds w na n f) (ht : Rgt (ndL f n)) (hen : ∀ i, i < n → (f i).dn ≤ 1000000 ∧ (f i).en ≤ 100000) (hp : p.size ≤ 1000000) (hq : q.size ≤ 1000000) (hzp : Pin w da dn dc zs) (hdn : dn ≤ 1000000)  :
  Calls Tryz.prog 42 #[.agg #[.slice na n c], .agg #[.int .i64 3, .string p, .string q, .int .i64 i, .int .i64 m, .slice da dn dc]] w (RefR w (oAny (ndL f n) 3 (nms p) (nms q) i m zs)) := by
 obtain ⟨RR, hRR⟩ : ∃ RR, RR = oAny (ndL f n) 3 (nms p) (nms q) i m zs := ⟨_, rfl⟩
 rw [← hRR]
 have HRR := qH hRR
 obtain ⟨x, hx⟩ : ∃ x, x = w.heap.size := ⟨_, rfl⟩
 obtain ⟨w4, hw4, hI⟩ := op_start w na n c 3 i m p q da dn dc
 rw [← hx] at hI
 have HI0 := qH hI
 have HX := qH hx
 have HW4 := qH hw4
 unfold ResZ at hw4
 have HT := qH ht
 have HEN := qH hen
 have hn56 : n ≤ 56 := ht.le.2
 clear hRR hI hx ht
 have HZP := qH hzp
 obtain ⟨b1, b2, b3, b4, b5, b6⟩ := HI0.out.op.cells
 have l1 := HI0.out.box.load
 have l2 := HI0.out.box.cell
 have l3 := HI0.out.op.load
 have hc : Calls Tryz.prog 75 #[.agg #[.slice na n c], .agg #[.int .i64 3, .string p, .string q, .int .i64 i, .int .i64 m, .slice da dn dc]] w4 (RefR w4 (oLink (ndL f n) (nms p) (nms q))) := rlink_any (c := c) (hN.next HI0.out.bel) HT.out HEN.out hp hq
 have hrr : oAny (ndL f n) 3 (nms p) (nms q) i m zs = oLink (ndL f n) (nms p) (nms q) := rfl
 rw [← hrr, ← HRR.out] at hc
 clear hrr
 go_enter Tryz.func42, Tryz.ntmps42
 go_wp2_with fail
 rw [← HX.out, ← hw4]
 clear hw4
 refine hc.mono ?_
 rintro e w7 ⟨a9, c9, n9, g9, ea, en, ec, ma, mn, mc, Ls, rfl, hN9, hL9, hS9, hb7⟩
 have HI7 := qH (HI0.out.next hb7)
 have HL9 := qH hL9
 have HF1 := qH (HI7.out.fin (cc := c9) hN9 hS9)
 clear hc hN9 hL9 hS9 hb7 b1 b2 b3 b4 b5 b6 l1 l2 l3
 obtain ⟨r1, r2, r3, ⟨a0, a1, a2, a3, a4, a5⟩, f0, f1, f2, f3, f4, f5, fl⟩ := HI7.out.all
 go_wp2_with fail
 clear r1 r2 r3 a0 a1 a2 a3 a4 a5 f0 f1 f2 f3 f4 f5 fl
 refine HF1.out.ret rfl rfl rfl rfl ?_
 exact HF1.out.refR HL9.out
theorem rdo_4 (hN : Nds w na n f) (ht : Rgt (ndL f n)) (hen : ∀ i, i < n → (f i).dn ≤ 1000000 ∧ (f i).en ≤ 100000) (hp : p.size ≤ 1000000) (hq : q.size ≤ 1000000) (hzp : Pin w da dn dc zs) (hdn : dn ≤ 1000000)  :
  Calls Tryz.prog 42 #[.agg #[.slice na n c], .agg #[.int .i64 4, .string p, .string q, .int .i64 i, .int .i64 m, .slice da dn dc]] w (RefR w (oAny (ndL f n) 4 (nms p) (nms q) i m zs)) := by
 obtain ⟨RR, hRR⟩ : ∃ RR, RR = oAny (ndL f n) 4 (nms p) (nms q) i m zs := ⟨_, rfl⟩
 rw [← hRR]
 have HRR := qH hRR
 obtain ⟨x, hx⟩ : ∃ x, x = w.heap.size := ⟨_, rfl⟩
 obtain ⟨w4, hw4, hI⟩ := op_start w na n c 4 i m p q da dn dc
 rw [← hx] at hI
 have HI0 := qH hI
 have HX := qH hx
 have HW4 := qH hw4
 unfold ResZ at hw4
 have HT := qH ht
 have HEN := qH hen
 have hn56 : n ≤ 56 := ht.le.2
 clear hRR hI hx ht
 have HZP := qH hzp
 obtain ⟨b1, b2, b3, b4, b5, b6⟩ := HI0.out.op.cells
 have l1 := HI0.out.box.load
 have l2 := HI0.out.box.cell
 have l3 := HI0.out.op.load
 have hc : Calls Tryz.prog 76 #[.agg #[.slice na n c], .agg #[.int .i64 4, .string p, .string q, .int .i64 i, .int .i64 m, .slice da dn dc]] w4 (RefR w4 (oCut (ndL f n) false (nms p))) := remove_any (c := c) false (hN.next HI0.out.bel) HT.out HEN.out hp rfl
 have hrr : oAny (ndL f n) 4 (nms p) (nms q) i m zs = oCut (ndL f n) false (nms p) := rfl
 rw [← hrr, ← HRR.out] at hc
 clear hrr
 go_enter Tryz.func42, Tryz.ntmps42
 go_wp2_with fail
 rw [← HX.out, ← hw4]
 clear hw4
 refine hc.mono ?_
 rintro e w7 ⟨a9, c9, n9, g9, ea, en, ec, ma, mn, mc, Ls, rfl, hN9, hL9, hS9, hb7⟩
 have HI7 := qH (HI0.out.next hb7)
 have HL9 := qH hL9
 have HF1 := qH (HI7.out.fin (cc := c9) hN9 hS9)
 clear hc hN9 hL9 hS9 hb7 b1 b2 b3 b4 b5 b6 l1 l2 l3
 obtain ⟨r1, r2, r3, ⟨a0, a1, a2, a3, a4, a5⟩, f0, f1, f2, f3, f4, f5, fl⟩ := HI7.out.all
 go_wp2_with fail
 clear r1 r2 r3 a0 a1 a2 a3 a4 a5 f0 f1 f2 f3 f4 f5 fl
 refine HF1.out.ret rfl rfl rfl rfl ?_
 exact HF1.out.refR HL9.out
theorem rdo_5 (hN : Nds w na n f) (ht : Rgt (ndL f n)) (hen : ∀ i, i < n → (f i).dn ≤ 1000000 ∧ (f i).en ≤ 100000) (hp : p.size ≤ 1000000) (hq : q.size ≤ 1000000) (hzp : Pin w da dn dc zs) (hdn : dn ≤ 1000000)  :
  Calls Tryz.prog 42 #[.agg #[.slice na n c], .agg #[.int .i64 5, .string p, .string q, .int .i64 i, .int .i64 m, .slice da dn dc]] w (RefR w (oAny (ndL f n) 5 (nms p) (nms q) i m zs)) := by
 obtain ⟨RR, hRR⟩ : ∃ RR, RR = oAny (ndL f n) 5 (nms p) (nms q) i m zs := ⟨_, rfl⟩
 rw [← hRR]
 have HRR := qH hRR
 obtain ⟨x, hx⟩ : ∃ x, x = w.heap.size := ⟨_, rfl⟩
 obtain ⟨w4, hw4, hI⟩ := op_start w na n c 5 i m p q da dn dc
 rw [← hx] at hI
 have HI0 := qH hI
 have HX := qH hx
 have HW4 := qH hw4
 unfold ResZ at hw4
 have HT := qH ht
 have HEN := qH hen
 have hn56 : n ≤ 56 := ht.le.2
 clear hRR hI hx ht
 have HZP := qH hzp
 obtain ⟨b1, b2, b3, b4, b5, b6⟩ := HI0.out.op.cells
 have l1 := HI0.out.box.load
 have l2 := HI0.out.box.cell
 have l3 := HI0.out.op.load
 have hc : Calls Tryz.prog 76 #[.agg #[.slice na n c], .agg #[.int .i64 5, .string p, .string q, .int .i64 i, .int .i64 m, .slice da dn dc]] w4 (RefR w4 (oCut (ndL f n) true (nms p))) := remove_any (c := c) true (hN.next HI0.out.bel) HT.out HEN.out hp rfl
 have hrr : oAny (ndL f n) 5 (nms p) (nms q) i m zs = oCut (ndL f n) true (nms p) := rfl
 rw [← hrr, ← HRR.out] at hc
 clear hrr
 go_enter Tryz.func42, Tryz.ntmps42
 go_wp2_with fail
 rw [← HX.out, ← hw4]
 clear hw4
 refine hc.mono ?_
 rintro e w7 ⟨a9, c9, n9, g9, ea, en, ec, ma, mn, mc, Ls, rfl, hN9, hL9, hS9, hb7⟩
 have HI7 := qH (HI0.out.next hb7)
 have HL9 := qH hL9
 have HF1 := qH (HI7.out.fin (cc := c9) hN9 hS9)
 clear hc hN9 hL9 hS9 hb7 b1 b2 b3 b4 b5 b6 l1 l2 l3
 obtain ⟨r1, r2, r3, ⟨a0, a1, a2, a3, a4, a5⟩, f0, f1, f2, f3, f4, f5, fl⟩ := HI7.out.all
 go_wp2_with fail
 clear r1 r2 r3 a0 a1 a2 a3 a4 a5 f0 f1 f2 f3 f4 f5 fl
 refine HF1.out.ret rfl rfl rfl rfl ?_
 exact HF1.out.refR HL9.out
theorem rdo_6 (hN : Nds w na n f) (ht : Rgt (ndL f n)) (hen : ∀ i, i < n → (f i).dn ≤ 1000000 ∧ (f i).en ≤ 100000) (hp : p.size ≤ 1000000) (hq : q.size ≤ 1000000) (hzp : Pin w da dn dc zs) (hdn : dn ≤ 1000000)  :
  Calls Tryz.prog 42 #[.agg #[.slice na n c], .agg #[.int .i64 6, .string p, .string q, .int .i64 i, .int .i64 m, .slice da dn dc]] w (RefR w (oAny (ndL f n) 6 (nms p) (nms q) i m zs)) := by
 obtain ⟨RR, hRR⟩ : ∃ RR, RR = oAny (ndL f n) 6 (nms p) (nms q) i m zs := ⟨_, rfl⟩
 rw [← hRR]
 have HRR := qH hRR
 obtain ⟨x, hx⟩ : ∃ x, x = w.heap.size := ⟨_, rfl⟩
 obtain ⟨w4, hw4, hI⟩ := op_start w na n c 6 i m p q da dn dc
 rw [← hx] at hI
 have HI0 := qH hI
 have HX := qH hx
 have HW4 := qH hw4
 unfold ResZ at hw4
 have HT := qH ht
 have HEN := qH hen
 have hn56 : n ≤ 56 := ht.le.2
 clear hRR hI hx ht
 have HZP := qH hzp
 obtain ⟨b1, b2, b3, b4, b5, b6⟩ := HI0.out.op.cells
 have l1 := HI0.out.box.load
 have l2 := HI0.out.box.cell
 have l3 := HI0.out.op.load
 have hc : Calls Tryz.prog 77 #[.agg #[.slice na n c], .agg #[.int .i64 6, .string p, .string q, .int .i64 i, .int .i64 m, .slice da dn dc]] w4 (RefR w4 (oRen (ndL f n) (nms p) (nms q))) := rrename_any (c := c) (hN.next HI0.out.bel) HT.out HEN.out hp hq
 have hrr : oAny (ndL f n) 6 (nms p) (nms q) i m zs = oRen (ndL f n) (nms p) (nms q) := rfl
 rw [← hrr, ← HRR.out] at hc
 clear hrr
 go_enter Tryz.func42, Tryz.ntmps42
 go_wp2_with fail
 rw [← HX.out, ← hw4]
 clear hw4
 refine hc.mono ?_
 rintro e w7 ⟨a9, c9, n9, g9, ea, en, ec, ma, mn, mc, Ls, rfl, hN9, hL9, hS9, hb7⟩
 have HI7 := qH (HI0.out.next hb7)
 have HL9 := qH hL9
 have HF1 := qH (HI7.out.fin (cc := c9) hN9 hS9)
 clear hc hN9 hL9 hS9 hb7 b1 b2 b3 b4 b5 b6 l1 l2 l3
 obtain ⟨r1, r2, r3, ⟨a0, a1, a2, a3, a4, a5⟩, f0, f1, f2, f3, f4, f5, fl⟩ := HI7.out.all
 go_wp2_with fail
 clear r1 r2 r3 a0 a1 a2 a3 a4 a5 f0 f1 f2 f3 f4 f5 fl
 refine HF1.out.ret rfl rfl rfl rfl ?_
 exact HF1.out.refR HL9.out
theorem rdo_7 (hN : Nds w na n f) (ht : Rgt (ndL f n)) (hen : ∀ i, i < n → (f i).dn ≤ 1000000 ∧ (f i).en ≤ 100000) (hp : p.size ≤ 1000000) (hq : q.size ≤ 1000000) (hzp : Pin w da dn dc zs) (hdn : dn ≤ 1000000)  :
  Calls Tryz.prog 42 #[.agg #[.slice na n c], .agg #[.int .i64 7, .string p, .string q, .int .i64 i, .int .i64 m, .slice da dn dc]] w (RefR w (oAny (ndL f n) 7 (nms p) (nms q) i m zs)) := by
 obtain ⟨RR, hRR⟩ : ∃ RR, RR = oAny (ndL f n) 7 (nms p) (nms q) i m zs := ⟨_, rfl⟩
 rw [← hRR]
 have HRR := qH hRR
 obtain ⟨x, hx⟩ : ∃ x, x = w.heap.size := ⟨_, rfl⟩
 obtain ⟨w4, hw4, hI⟩ := op_start w na n c 7 i m p q da dn dc
 rw [← hx] at hI
 have HI0 := qH hI
 have HX := qH hx
 have HW4 := qH hw4
 unfold ResZ at hw4
 have HT := qH ht
 have HEN := qH hen
 have hn56 : n ≤ 56 := ht.le.2
 clear hRR hI hx ht
 have HZP := qH hzp
 obtain ⟨b1, b2, b3, b4, b5, b6⟩ := HI0.out.op.cells
 have l1 := HI0.out.box.load
 have l2 := HI0.out.box.cell
 have l3 := HI0.out.op.load
 have hc : Calls Tryz.prog 78 #[.agg #[.slice na n c], .agg #[.int .i64 7, .string p, .string q, .int .i64 i, .int .i64 m, .slice da dn dc]] w4 (RefR w4 (oRead (ndL f n) (nms p) i m)) := rread_any (c := c) (hN.next HI0.out.bel) HT.out HEN.out hp
 have hrr : oAny (ndL f n) 7 (nms p) (nms q) i m zs = oRead (ndL f n) (nms p) i m := rfl
 rw [← hrr, ← HRR.out] at hc
 clear hrr
 go_enter Tryz.func42, Tryz.ntmps42
 go_wp2_with fail
 rw [← HX.out, ← hw4]
 clear hw4
 refine hc.mono ?_
 rintro e w7 ⟨a9, c9, n9, g9, ea, en, ec, ma, mn, mc, Ls, rfl, hN9, hL9, hS9, hb7⟩
 have HI7 := qH (HI0.out.next hb7)
 have HL9 := qH hL9
 have HF1 := qH (HI7.out.fin (cc := c9) hN9 hS9)
 clear hc hN9 hL9 hS9 hb7 b1 b2 b3 b4 b5 b6 l1 l2 l3
 obtain ⟨r1, r2, r3, ⟨a0, a1, a2, a3, a4, a5⟩, f0, f1, f2, f3, f4, f5, fl⟩ := HI7.out.all
 go_wp2_with fail
 clear r1 r2 r3 a0 a1 a2 a3 a4 a5 f0 f1 f2 f3 f4 f5 fl
 refine HF1.out.ret rfl rfl rfl rfl ?_
 exact HF1.out.refR HL9.out
theorem rdo_8 (hN : Nds w na n f) (ht : Rgt (ndL f n)) (hen : ∀ i, i < n → (f i).dn ≤ 1000000 ∧ (f i).en ≤ 100000) (hp : p.size ≤ 1000000) (hq : q.size ≤ 1000000) (hzp : Pin w da dn dc zs) (hdn : dn ≤ 1000000)  :
  Calls Tryz.prog 42 #[.agg #[.slice na n c], .agg #[.int .i64 8, .string p, .string q, .int .i64 i, .int .i64 m, .slice da dn dc]] w (RefR w (oAny (ndL f n) 8 (nms p) (nms q) i m zs)) := by
 obtain ⟨RR, hRR⟩ : ∃ RR, RR = oAny (ndL f n) 8 (nms p) (nms q) i m zs := ⟨_, rfl⟩
 rw [← hRR]
 have HRR := qH hRR
 obtain ⟨x, hx⟩ : ∃ x, x = w.heap.size := ⟨_, rfl⟩
 obtain ⟨w4, hw4, hI⟩ := op_start w na n c 8 i m p q da dn dc
 rw [← hx] at hI
 have HI0 := qH hI
 have HX := qH hx
 have HW4 := qH hw4
 unfold ResZ at hw4
 have HT := qH ht
 have HEN := qH hen
 have hn56 : n ≤ 56 := ht.le.2
 clear hRR hI hx ht
 have HZP := qH hzp
 obtain ⟨b1, b2, b3, b4, b5, b6⟩ := HI0.out.op.cells
 have l1 := HI0.out.box.load
 have l2 := HI0.out.box.cell
 have l3 := HI0.out.op.load
 have hc : Calls Tryz.prog 78 #[.agg #[.slice na n c], .agg #[.int .i64 8, .string p, .string q, .int .i64 i, .int .i64 m, .slice da dn dc]] w4 (RefR w4 (oWrite (ndL f n) (nms p) i zs)) := rwrite_any (c := c) (hN.next HI0.out.bel) HT.out HEN.out hp (HZP.out.next HI0.out.bel) hdn
 have hrr : oAny (ndL f n) 8 (nms p) (nms q) i m zs = oWrite (ndL f n) (nms p) i zs := rfl
 rw [← hrr, ← HRR.out] at hc
 clear hrr
 go_enter Tryz.func42, Tryz.ntmps42
 go_wp2_with fail
 rw [← HX.out, ← hw4]
 clear hw4
 refine hc.mono ?_
 rintro e w7 ⟨a9, c9, n9, g9, ea, en, ec, ma, mn, mc, Ls, rfl, hN9, hL9, hS9, hb7⟩
 have HI7 := qH (HI0.out.next hb7)
 have HL9 := qH hL9
 have HF1 := qH (HI7.out.fin (cc := c9) hN9 hS9)
 clear hc hN9 hL9 hS9 hb7 b1 b2 b3 b4 b5 b6 l1 l2 l3
 obtain ⟨r1, r2, r3, ⟨a0, a1, a2, a3, a4, a5⟩, f0, f1, f2, f3, f4, f5, fl⟩ := HI7.out.all
 go_wp2_with fail
 clear r1 r2 r3 a0 a1 a2 a3 a4 a5 f0 f1 f2 f3 f4 f5 fl
 refine HF1.out.ret rfl rfl rfl rfl ?_
 exact HF1.out.refR HL9.out
theorem rdo_9 (hN : Nds w na n f) (ht : Rgt (ndL f n)) (hen : ∀ i, i < n → (f i).dn ≤ 1000000 ∧ (f i).en ≤ 100000) (hp : p.size ≤ 1000000) (hq : q.size ≤ 1000000) (hzp : Pin w da dn dc zs) (hdn : dn ≤ 1000000)  :
  Calls Tryz.prog 42 #[.agg #[.slice na n c], .agg #[.int .i64 9, .string p, .string q, .int .i64 i, .int .i64 m, .slice da dn dc]] w (RefR w (oAny (ndL f n) 9 (nms p) (nms q) i m zs)) := by
 obtain ⟨RR, hRR⟩ : ∃ RR, RR = oAny (ndL f n) 9 (nms p) (nms q) i m zs := ⟨_, rfl⟩
 rw [← hRR]
 have HRR := qH hRR
 obtain ⟨x, hx⟩ : ∃ x, x = w.heap.size := ⟨_, rfl⟩
 obtain ⟨w4, hw4, hI⟩ := op_start w na n c 9 i m p q da dn dc
 rw [← hx] at hI
 have HI0 := qH hI
 have HX := qH hx
 have HW4 := qH hw4
 unfold ResZ at hw4
 have HT := qH ht
 have HEN := qH hen
 have hn56 : n ≤ 56 := ht.le.2
 clear hRR hI hx ht
 have HZP := qH hzp
 obtain ⟨b1, b2, b3, b4, b5, b6⟩ := HI0.out.op.cells
 have l1 := HI0.out.box.load
 have l2 := HI0.out.box.cell
 have l3 := HI0.out.op.load
 have hc : Calls Tryz.prog 78 #[.agg #[.slice na n c], .agg #[.int .i64 9, .string p, .string q, .int .i64 i, .int .i64 m, .slice da dn dc]] w4 (RefR w4 (oTrunc (ndL f n) (nms p) m)) := rtrunc_any (c := c) (hN.next HI0.out.bel) HT.out HEN.out hp
 have hrr : oAny (ndL f n) 9 (nms p) (nms q) i m zs = oTrunc (ndL f n) (nms p) m := rfl
 rw [← hrr, ← HRR.out] at hc
 clear hrr
 go_enter Tryz.func42, Tryz.ntmps42
 go_wp2_with fail
 rw [← HX.out, ← hw4]
 clear hw4
 refine hc.mono ?_
 rintro e w7 ⟨a9, c9, n9, g9, ea, en, ec, ma, mn, mc, Ls, rfl, hN9, hL9, hS9, hb7⟩
 have HI7 := qH (HI0.out.next hb7)
 have HL9 := qH hL9
 have HF1 := qH (HI7.out.fin (cc := c9) hN9 hS9)
 clear hc hN9 hL9 hS9 hb7 b1 b2 b3 b4 b5 b6 l1 l2 l3
 obtain ⟨r1, r2, r3, ⟨a0, a1, a2, a3, a4, a5⟩, f0, f1, f2, f3, f4, f5, fl⟩ := HI7.out.all
 go_wp2_with fail
 clear r1 r2 r3 a0 a1 a2 a3 a4 a5 f0 f1 f2 f3 f4 f5 fl
 refine HF1.out.ret rfl rfl rfl rfl ?_
 exact HF1.out.refR HL9.out
theorem rdo_10 (hN : Nds w na n f) (ht : Rgt (ndL f n)) (hen : ∀ i, i < n → (f i).dn ≤ 1000000 ∧ (f i).en ≤ 100000) (hp : p.size ≤ 1000000) (hq : q.size ≤ 1000000) (hzp : Pin w da dn dc zs) (hdn : dn ≤ 1000000)  :
  Calls Tryz.prog 42 #[.agg #[.slice na n c], .agg #[.int .i64 10, .string p, .string q, .int .i64 i, .int .i64 m, .slice da dn dc]] w (RefR w (oAny (ndL f n) 10 (nms p) (nms q) i m zs)) := by
 obtain ⟨RR, hRR⟩ : ∃ RR, RR = oAny (ndL f n) 10 (nms p) (nms q) i m zs := ⟨_, rfl⟩
 rw [← hRR]
 have HRR := qH hRR
 obtain ⟨x, hx⟩ : ∃ x, x = w.heap.size := ⟨_, rfl⟩
 obtain ⟨w4, hw4, hI⟩ := op_start w na n c 10 i m p q da dn dc
 rw [← hx] at hI
 have HI0 := qH hI
 have HX := qH hx
 have HW4 := qH hw4
 unfold ResZ at hw4
 have HT := qH ht
 have HEN := qH hen
 have hn56 : n ≤ 56 := ht.le.2
 clear hRR hI hx ht
 have HZP := qH hzp
 obtain ⟨b1, b2, b3, b4, b5, b6⟩ := HI0.out.op.cells
 have l1 := HI0.out.box.load
 have l2 := HI0.out.box.cell
 have l3 := HI0.out.op.load
 have HRP : Hid (RR = (ndL f n, oAsk (ndL f n) 10 (nms p))) := qH (HRR.out.trans (oAny_10 _ _ _ _ _ _))
 go_enter Tryz.func42, Tryz.ntmps42
 go_wp2_with fail
 rw [← HX.out, ← hw4]
 clear hw4
 clear b1 b2 b3 b4 b5 b6 l1 l2 l3
 refine wp_region_held_drew (S := (fun w' => TrB w' x (.slice na n c) ∧ OpC w' (x + 1) 10 i m p q da dn dc)) (by kernel_rfl) ?_ (fun hHeld => ?_)
 ·exact ⟨HI0.out.box, HI0.out.op⟩
 have hbd : Below w4.heap.size w4 w4.drew := below_drewN (Below.refl _ _) 1
 have HID := qH (HI0.out.next hbd)
 have hc := rask_10 (q := q) (i := i) (m := m) (da := da) (dn := dn) (dc := dc) (c := c) (hN.next HID.out.bel) HT.out HEN.out hp
 refine rgZ 0 ?_ rfl (.inl ⟨by rfl, fun w hSw => ?_⟩) ?_ (by kernel_rfl) (fun _ _ _ h => h) (by assumption)
 rotate_left
 ·have hl := TrB.load hSw.1
  have hcl := TrB.cell hSw.1
  go_simp
  try with_reducible rfl
 simp only [Act.put, rg]
 refine rgZ 1 ?_ rfl (.inl ⟨by rfl, fun w hSw => ?_⟩) ?_ (by kernel_rfl) (fun _ _ _ h => h) (by assumption)
 rotate_left
 ·have hl := TrB.load hSw.1
  have hcl := TrB.cell hSw.1
  go_simp
  try with_reducible rfl
 simp only [Act.put, rg]
 refine rgZ 2 ?_ rfl (.inl ⟨by rfl, fun w hSw => ?_⟩) ?_ (by kernel_rfl) (fun _ _ _ h => h) (by assumption)
 rotate_left
 ·have hl := OpC.load hSw.2
  have hcl := OpC.cells hSw.2
  go_simp
  try with_reducible rfl
 simp only [Act.put, rg]
 refine rgC 3 rfl (by kernel_rfl) (fun K hK => ?_)
 simp only [rg4, rg5, rg6]
 go_simp
 refine hc.mono ?_
 rintro e w7 ⟨v7, rfl, ⟨ea, en, ec, ma, mn, mc, Ls, rfl, hS7⟩, hb7⟩
 have HI7 := qH (HID.out.next hb7)
 have HS7 := qH hS7
 have HN7 := qH (hN.next HI7.out.bel)
 clear hc hb7 hS7 hHeld hbd
 go_wp2_with fail
 refine hK.out _ _ ⟨HI7.out.box, HI7.out.op⟩ (fun _ => ?_)
 clear hK K
 obtain ⟨r1, r2, r3, ⟨a0, a1, a2, a3, a4, a5⟩, f0, f1, f2, f3, f4, f5, fl⟩ := HI7.out.all
 have HF1 := qH (HI7.out.fin (cc := c) HN7.out HS7.out)
 unfold resW
 refine rgC 4 rfl (by kernel_rfl) (fun K hK => ?_)
 simp only [rg4, rg5, rg6]
 go_simp
 go_wp2_with fail
 refine hK.out _ _ ⟨TrB.off HI7.out.box (by omega), (HI7.out.op.off (by omega))⟩ (fun _ => ?_)
 clear hK K
 refine rgC 5 rfl (by kernel_rfl) (fun K hK => ?_)
 simp only [rg4, rg5, rg6]
 go_simp
 go_wp2_with fail
 refine hK.out _ _ ⟨TrB.off6 (TrB.off HI7.out.box (by omega)) (by omega), (OpC.off6 (HI7.out.op.off (by omega)) (by omega))⟩ (fun _ => ?_)
 clear hK K
 refine wpAnyH_done (by kernel_rfl) ?_ _
 go_wp2_with fail
 clear r1 r2 r3 a0 a1 a2 a3 a4 a5 f0 f1 f2 f3 f4 f5 fl
 refine HF1.out.ret rfl rfl rfl rfl ?_
 exact HRP.out ▸ HF1.out.refR rfl
theorem rdo_11 (hN : Nds w na n f) (ht : Rgt (ndL f n)) (hen : ∀ i, i < n → (f i).dn ≤ 1000000 ∧ (f i).en ≤ 100000) (hp : p.size ≤ 1000000) (hq : q.size ≤ 1000000) (hzp : Pin w da dn dc zs) (hdn : dn ≤ 1000000)  :
  Calls Tryz.prog 42 #[.agg #[.slice na n c], .agg #[.int .i64 11, .string p, .string q, .int .i64 i, .int .i64 m, .slice da dn dc]] w (RefR w (oAny (ndL f n) 11 (nms p) (nms q) i m zs)) := by
 obtain ⟨RR, hRR⟩ : ∃ RR, RR = oAny (ndL f n) 11 (nms p) (nms q) i m zs := ⟨_, rfl⟩
 rw [← hRR]
 have HRR := qH hRR
 obtain ⟨x, hx⟩ : ∃ x, x = w.heap.size := ⟨_, rfl⟩
 obtain ⟨w4, hw4, hI⟩ := op_start w na n c 11 i m p q da dn dc
 rw [← hx] at hI
 have HI0 := qH hI
 have HX := qH hx
 have HW4 := qH hw4
 unfold ResZ at hw4
 have HT := qH ht
 have HEN := qH hen
 have hn56 : n ≤ 56 := ht.le.2
 clear hRR hI hx ht
 have HZP := qH hzp
 obtain ⟨b1, b2, b3, b4, b5, b6⟩ := HI0.out.op.cells
 have l1 := HI0.out.box.load
 have l2 := HI0.out.box.cell
 have l3 := HI0.out.op.load
 have HRP : Hid (RR = (ndL f n, oAsk (ndL f n) 11 (nms p))) := qH (HRR.out.trans (oAny_11 _ _ _ _ _ _))
 go_enter Tryz.func42, Tryz.ntmps42
 go_wp2_with fail
 rw [← HX.out, ← hw4]
 clear hw4
 clear b1 b2 b3 b4 b5 b6 l1 l2 l3
 refine wp_region_held_drew (S := (fun w' => TrB w' x (.slice na n c) ∧ OpC w' (x + 1) 11 i m p q da dn dc)) (by kernel_rfl) ?_ (fun hHeld => ?_)
 ·exact ⟨HI0.out.box, HI0.out.op⟩
 have hbd : Below w4.heap.size w4 w4.drew := below_drewN (Below.refl _ _) 1
 have HID := qH (HI0.out.next hbd)
 have hc := rask_11 (q := q) (i := i) (m := m) (da := da) (dn := dn) (dc := dc) (c := c) (hN.next HID.out.bel) HT.out HEN.out hp
 refine rgZ 0 ?_ rfl (.inl ⟨by rfl, fun w hSw => ?_⟩) ?_ (by kernel_rfl) (fun _ _ _ h => h) (by assumption)
 rotate_left
 ·have hl := TrB.load hSw.1
  have hcl := TrB.cell hSw.1
  go_simp
  try with_reducible rfl
 simp only [Act.put, rg]
 refine rgZ 1 ?_ rfl (.inl ⟨by rfl, fun w hSw => ?_⟩) ?_ (by kernel_rfl) (fun _ _ _ h => h) (by assumption)
 rotate_left
 ·have hl := TrB.load hSw.1
  have hcl := TrB.cell hSw.1
  go_simp
  try with_reducible rfl
 simp only [Act.put, rg]
 refine rgZ 2 ?_ rfl (.inl ⟨by rfl, fun w hSw => ?_⟩) ?_ (by kernel_rfl) (fun _ _ _ h => h) (by assumption)
 rotate_left
 ·have hl := OpC.load hSw.2
  have hcl := OpC.cells hSw.2
  go_simp
  try with_reducible rfl
 simp only [Act.put, rg]
 refine rgC 3 rfl (by kernel_rfl) (fun K hK => ?_)
 simp only [rg4, rg5, rg6]
 go_simp
 refine hc.mono ?_
 rintro e w7 ⟨v7, rfl, ⟨ea, en, ec, ma, mn, mc, Ls, rfl, hS7⟩, hb7⟩
 have HI7 := qH (HID.out.next hb7)
 have HS7 := qH hS7
 have HN7 := qH (hN.next HI7.out.bel)
 clear hc hb7 hS7 hHeld hbd
 go_wp2_with fail
 refine hK.out _ _ ⟨HI7.out.box, HI7.out.op⟩ (fun _ => ?_)
 clear hK K
 obtain ⟨r1, r2, r3, ⟨a0, a1, a2, a3, a4, a5⟩, f0, f1, f2, f3, f4, f5, fl⟩ := HI7.out.all
 have HF1 := qH (HI7.out.fin (cc := c) HN7.out HS7.out)
 unfold resW
 refine rgC 4 rfl (by kernel_rfl) (fun K hK => ?_)
 simp only [rg4, rg5, rg6]
 go_simp
 go_wp2_with fail
 refine hK.out _ _ ⟨TrB.off HI7.out.box (by omega), (HI7.out.op.off (by omega))⟩ (fun _ => ?_)
 clear hK K
 refine rgC 5 rfl (by kernel_rfl) (fun K hK => ?_)
 simp only [rg4, rg5, rg6]
 go_simp
 go_wp2_with fail
 refine hK.out _ _ ⟨TrB.off6 (TrB.off HI7.out.box (by omega)) (by omega), (OpC.off6 (HI7.out.op.off (by omega)) (by omega))⟩ (fun _ => ?_)
 clear hK K
 refine wpAnyH_done (by kernel_rfl) ?_ _
 go_wp2_with fail
 clear r1 r2 r3 a0 a1 a2 a3 a4 a5 f0 f1 f2 f3 f4 f5 fl
 refine HF1.out.ret rfl rfl rfl rfl ?_
 exact HRP.out ▸ HF1.out.refR rfl
theorem rdo_13 (hN : Nds w na n f) (ht : Rgt (ndL f n)) (hen : ∀ i, i < n → (f i).dn ≤ 1000000 ∧ (f i).en ≤ 100000) (hp : p.size ≤ 1000000) (hq : q.size ≤ 1000000) (hzp : Pin w da dn dc zs) (hdn : dn ≤ 1000000)  :
  Calls Tryz.prog 42 #[.agg #[.slice na n c], .agg #[.int .i64 13, .string p, .string q, .int .i64 i, .int .i64 m, .slice da dn dc]] w (RefR w (oAny (ndL f n) 13 (nms p) (nms q) i m zs)) := by
 obtain ⟨RR, hRR⟩ : ∃ RR, RR = oAny (ndL f n) 13 (nms p) (nms q) i m zs := ⟨_, rfl⟩
 rw [← hRR]
 have HRR := qH hRR
 obtain ⟨x, hx⟩ : ∃ x, x = w.heap.size := ⟨_, rfl⟩
 obtain ⟨w4, hw4, hI⟩ := op_start w na n c 13 i m p q da dn dc
 rw [← hx] at hI
 have HI0 := qH hI
 have HX := qH hx
 have HW4 := qH hw4
 unfold ResZ at hw4
 have HT := qH ht
 have HEN := qH hen
 have hn56 : n ≤ 56 := ht.le.2
 clear hRR hI hx ht
 have HZP := qH hzp
 obtain ⟨b1, b2, b3, b4, b5, b6⟩ := HI0.out.op.cells
 have l1 := HI0.out.box.load
 have l2 := HI0.out.box.cell
 have l3 := HI0.out.op.load
 have HRP : Hid (RR = (ndL f n, oAsk (ndL f n) 13 (nms p))) := qH (HRR.out.trans (oAny_13 _ _ _ _ _ _))
 go_enter Tryz.func42, Tryz.ntmps42
 go_wp2_with fail
 rw [← HX.out, ← hw4]
 clear hw4
 clear b1 b2 b3 b4 b5 b6 l1 l2 l3
 refine wp_region_held_drew (S := (fun w' => TrB w' x (.slice na n c) ∧ OpC w' (x + 1) 13 i m p q da dn dc)) (by kernel_rfl) ?_ (fun hHeld => ?_)
 ·exact ⟨HI0.out.box, HI0.out.op⟩
 have hbd : Below w4.heap.size w4 w4.drew := below_drewN (Below.refl _ _) 1
 have HID := qH (HI0.out.next hbd)
 have hc := rask_13 (q := q) (i := i) (m := m) (da := da) (dn := dn) (dc := dc) (c := c) (hN.next HID.out.bel) HT.out HEN.out hp
 refine rgZ 0 ?_ rfl (.inl ⟨by rfl, fun w hSw => ?_⟩) ?_ (by kernel_rfl) (fun _ _ _ h => h) (by assumption)
 rotate_left
 ·have hl := TrB.load hSw.1
  have hcl := TrB.cell hSw.1
  go_simp
  try with_reducible rfl
 simp only [Act.put, rg]
 refine rgZ 1 ?_ rfl (.inl ⟨by rfl, fun w hSw => ?_⟩) ?_ (by kernel_rfl) (fun _ _ _ h => h) (by assumption)
 rotate_left
 ·have hl := TrB.load hSw.1
  have hcl := TrB.cell hSw.1
  go_simp
  try with_reducible rfl
 simp only [Act.put, rg]
 refine rgZ 2 ?_ rfl (.inl ⟨by rfl, fun w hSw => ?_⟩) ?_ (by kernel_rfl) (fun _ _ _ h => h) (by assumption)
 rotate_left
 ·have hl := OpC.load hSw.2
  have hcl := OpC.cells hSw.2
  go_simp
  try with_reducible rfl
 simp only [Act.put, rg]
 refine rgC 3 rfl (by kernel_rfl) (fun K hK => ?_)
 simp only [rg4, rg5, rg6]
 go_simp
 refine hc.mono ?_
 rintro e w7 ⟨v7, rfl, ⟨ea, en, ec, ma, mn, mc, Ls, rfl, hS7⟩, hb7⟩
 have HI7 := qH (HID.out.next hb7)
 have HS7 := qH hS7
 have HN7 := qH (hN.next HI7.out.bel)
 clear hc hb7 hS7 hHeld hbd
 go_wp2_with fail
 refine hK.out _ _ ⟨HI7.out.box, HI7.out.op⟩ (fun _ => ?_)
 clear hK K
 obtain ⟨r1, r2, r3, ⟨a0, a1, a2, a3, a4, a5⟩, f0, f1, f2, f3, f4, f5, fl⟩ := HI7.out.all
 have HF1 := qH (HI7.out.fin (cc := c) HN7.out HS7.out)
 unfold resW
 refine rgC 4 rfl (by kernel_rfl) (fun K hK => ?_)
 simp only [rg4, rg5, rg6]
 go_simp
 go_wp2_with fail
 refine hK.out _ _ ⟨TrB.off HI7.out.box (by omega), (HI7.out.op.off (by omega))⟩ (fun _ => ?_)
 clear hK K
 refine rgC 5 rfl (by kernel_rfl) (fun K hK => ?_)
 simp only [rg4, rg5, rg6]
 go_simp
 go_wp2_with fail
 refine hK.out _ _ ⟨TrB.off6 (TrB.off HI7.out.box (by omega)) (by omega), (OpC.off6 (HI7.out.op.off (by omega)) (by omega))⟩ (fun _ => ?_)
 clear hK K
 refine wpAnyH_done (by kernel_rfl) ?_ _
 go_wp2_with fail
 clear r1 r2 r3 a0 a1 a2 a3 a4 a5 f0 f1 f2 f3 f4 f5 fl
 refine HF1.out.ret rfl rfl rfl rfl ?_
 exact HRP.out ▸ HF1.out.refR rfl
theorem rdo_12 (hN : Nds w na n f) (ht : Rgt (ndL f n)) (hen : ∀ i, i < n → (f i).dn ≤ 1000000 ∧ (f i).en ≤ 100000) (hp : p.size ≤ 1000000) (hq : q.size ≤ 1000000) (hzp : Pin w da dn dc zs) (hdn : dn ≤ 1000000)  :
  Calls Tryz.prog 42 #[.agg #[.slice na n c], .agg #[.int .i64 12, .string p, .string q, .int .i64 i, .int .i64 m, .slice da dn dc]] w (RefR w (oAny (ndL f n) 12 (nms p) (nms q) i m zs)) := by
 obtain ⟨RR, hRR⟩ : ∃ RR, RR = oAny (ndL f n) 12 (nms p) (nms q) i m zs := ⟨_, rfl⟩
 rw [← hRR]
 have HRR := qH hRR
 obtain ⟨x, hx⟩ : ∃ x, x = w.heap.size := ⟨_, rfl⟩
 obtain ⟨w4, hw4, hI⟩ := op_start w na n c 12 i m p q da dn dc
 rw [← hx] at hI
 have HI0 := qH hI
 have HX := qH hx
 have HW4 := qH hw4
 unfold ResZ at hw4
 have HT := qH ht
 have HEN := qH hen
 have hn56 : n ≤ 56 := ht.le.2
 clear hRR hI hx ht
 have HZP := qH hzp
 obtain ⟨b1, b2, b3, b4, b5, b6⟩ := HI0.out.op.cells
 have l1 := HI0.out.box.load
 have l2 := HI0.out.box.cell
 have l3 := HI0.out.op.load
 have HRP : Hid (RR = (ndL f n, .ok)) := qH (HRR.out.trans rfl)
 have hi := HI0.out
 rw [hw4] at hi
 obtain ⟨r1, r2, r3, ⟨a0, a1, a2, a3, a4, a5⟩, f0, f1, f2, f3, f4, f5, fl⟩ := hi.all
 have HF1 := qH (HI0.out.fin (cc := c) (hN.next HI0.out.bel) (resS_num w4 0 0 0 0))
 clear hi r1 r2 r3 a0 a1 a2 a3 a4 a5 f0 f1 f2 f3 f4 f5 fl
 go_enter Tryz.func42, Tryz.ntmps42
 go_upto_region 21 with fail
 rw [← HX.out, ← hw4]
 clear hw4
 clear b1 b2 b3 b4 b5 b6 l1 l2 l3
 have l1 := HI0.out.box.load
 have l2 := HI0.out.box.cell
 obtain ⟨r1, r2, r3, ⟨a0, a1, a2, a3, a4, a5⟩, f0, f1, f2, f3, f4, f5, fl⟩ := HI0.out.all
 go_wp2_with fail
 clear r1 r2 r3 a0 a1 a2 a3 a4 a5 f0 f1 f2 f3 f4 f5 fl
 refine HF1.out.ret rfl rfl rfl rfl ?_
 exact HRP.out ▸ HF1.out.refR rfl
theorem rdo_else (hN : Nds w na n f) (ht : Rgt (ndL f n)) (hen : ∀ i, i < n → (f i).dn ≤ 1000000 ∧ (f i).en ≤ 100000) (hp : p.size ≤ 1000000) (hq : q.size ≤ 1000000) (hzp : Pin w da dn dc zs) (hdn : dn ≤ 1000000)  (ho : ∀ k : Int, 1 ≤ k → k ≤ 13 → o ≠ k) :
  Calls Tryz.prog 42 #[.agg #[.slice na n c], .agg #[.int .i64 o, .string p, .string q, .int .i64 i, .int .i64 m, .slice da dn dc]] w (RefR w (oAny (ndL f n) o (nms p) (nms q) i m zs)) := by
 obtain ⟨RR, hRR⟩ : ∃ RR, RR = oAny (ndL f n) o (nms p) (nms q) i m zs := ⟨_, rfl⟩
 rw [← hRR]
 have HRR := qH hRR
 obtain ⟨x, hx⟩ : ∃ x, x = w.heap.size := ⟨_, rfl⟩
 obtain ⟨w4, hw4, hI⟩ := op_start w na n c o i m p q da dn dc
 rw [← hx] at hI
 have HI0 := qH hI
 have HX := qH hx
 have HW4 := qH hw4
 unfold ResZ at hw4
 have HT := qH ht
 have HEN := qH hen
 have hn56 : n ≤ 56 := ht.le.2
 clear hRR hI hx ht
 have HZP := qH hzp
 obtain ⟨b1, b2, b3, b4, b5, b6⟩ := HI0.out.op.cells
 have l1 := HI0.out.box.load
 have l2 := HI0.out.box.cell
 have l3 := HI0.out.op.load
 have RRP : Hid (RR = (ndL f n, .bad 30)) := qH (HRR.out.trans (oAny_else ho _ _ _ _ _ _))
 have q1 : (o == 1) = false := beq_false_of_ne (ho 1 (by decide) (by decide))
 have q2 : (o == 2) = false := beq_false_of_ne (ho 2 (by decide) (by decide))
 have q3 : (o == 3) = false := beq_false_of_ne (ho 3 (by decide) (by decide))
 have q4 : (o == 4) = false := beq_false_of_ne (ho 4 (by decide) (by decide))
 have q5 : (o == 5) = false := beq_false_of_ne (ho 5 (by decide) (by decide))
 have q6 : (o == 6) = false := beq_false_of_ne (ho 6 (by decide) (by decide))
 have q7 : (o == 7) = false := beq_false_of_ne (ho 7 (by decide) (by decide))
 have q8 : (o == 8) = false := beq_false_of_ne (ho 8 (by decide) (by decide))
 have q9 : (o == 9) = false := beq_false_of_ne (ho 9 (by decide) (by decide))
 have q10 : (o == 10) = false := beq_false_of_ne (ho 10 (by decide) (by decide))
 have q11 : (o == 11) = false := beq_false_of_ne (ho 11 (by decide) (by decide))
 have q12 : (o == 12) = false := beq_false_of_ne (ho 12 (by decide) (by decide))
 have q13 : (o == 13) = false := beq_false_of_ne (ho 13 (by decide) (by decide))
 clear ho
 go_enter Tryz.func42, Tryz.ntmps42
 go_wp2_with fail
 rw [← HX.out, ← hw4]
 clear hw4
 clear b1 b2 b3 b4 b5 b6 l1 l2 l3
 refine wp_region_held_drew (S := (fun w' => TrB w' x (.slice na n c))) (by kernel_rfl) ?_ (fun hHeld => ?_)
 ·exact HI0.out.box
 refine rgZ 0 ?_ rfl (.inl ⟨by rfl, fun w hSw => ?_⟩) ?_ (by kernel_rfl) (fun _ _ _ h => h) (by assumption)
 rotate_left
 ·have hl := TrB.load hSw
  have hcl := TrB.cell hSw
  go_simp
  try with_reducible rfl
 simp only [Act.put, rg]
 refine rgC 1 rfl (by kernel_rfl) (fun K hK => ?_)
 simp only [rg4, rg5, rg6]
 go_simp
 refine (rwrong_any _ (30)).mono ?_
 rintro e w7 ⟨rfl, hb7⟩
 have HI7 := qH (HI0.out.next ((below_drewN (Below.refl _ _) 1).trans hb7))
 have HN7 := qH (hN.next HI7.out.bel)
 clear hb7 hHeld
 go_wp2_with fail
 refine hK.out _ _ HI7.out.box (fun _ => ?_)
 clear hK K
 obtain ⟨r1, r2, r3, ⟨a0, a1, a2, a3, a4, a5⟩, f0, f1, f2, f3, f4, f5, fl⟩ := HI7.out.all
 have HF1 := qH (HI7.out.fin (cc := c) HN7.out (resS_num w7 (30) 0 0 0))
 refine rgC 2 rfl (by kernel_rfl) (fun K hK => ?_)
 simp only [rg4, rg5, rg6]
 go_simp
 go_wp2_with fail
 refine hK.out _ _ HI7.out.b1 (fun _ => ?_)
 clear hK K
 refine rgC 3 rfl (by kernel_rfl) (fun K hK => ?_)
 simp only [rg4, rg5, rg6]
 go_simp
 go_wp2_with fail
 refine hK.out _ _ HI7.out.b6 (fun _ => ?_)
 clear hK K
 refine wpAnyH_done (by kernel_rfl) ?_ _
 clear r1 r2 r3 a0 a1 a2 a3 a4 a5 f0 f1 f2 f3 f4 f5 fl
 go_wp2_with fail
 refine HF1.out.ret rfl rfl rfl rfl ?_
 exact RRP.out ▸ HF1.out.refR rfl
theorem rdo_any (hN : Nds w na n f) (ht : Rgt (ndL f n)) (hen : ∀ i, i < n → (f i).dn ≤ 1000000 ∧ (f i).en ≤ 100000) (hp : p.size ≤ 1000000) (hq : q.size ≤ 1000000) (hzp : Pin w da dn dc zs) (hdn : dn ≤ 1000000) (o : Int) :
  Calls Tryz.prog 42 #[.agg #[.slice na n c], .agg #[.int .i64 o, .string p, .string q, .int .i64 i, .int .i64 m, .slice da dn dc]] w (RefR w (oAny (ndL f n) o (nms p) (nms q) i m zs)) := by
 by_cases h1 : o = 1
 ·subst h1
  exact rdo_1 hN ht hen hp hq hzp hdn
 by_cases h2 : o = 2
 ·subst h2
  exact rdo_2 hN ht hen hp hq hzp hdn
 by_cases h3 : o = 3
 ·subst h3
  exact rdo_3 hN ht hen hp hq hzp hdn
 by_cases h4 : o = 4
 ·subst h4
  exact rdo_4 hN ht hen hp hq hzp hdn
 by_cases h5 : o = 5
 ·subst h5
  exact rdo_5 hN ht hen hp hq hzp hdn
 by_cases h6 : o = 6
 ·subst h6
  exact rdo_6 hN ht hen hp hq hzp hdn
 by_cases h7 : o = 7
 ·subst h7
  exact rdo_7 hN ht hen hp hq hzp hdn
 by_cases h8 : o = 8
 ·subst h8
  exact rdo_8 hN ht hen hp hq hzp hdn
 by_cases h9 : o = 9
 ·subst h9
  exact rdo_9 hN ht hen hp hq hzp hdn
 by_cases h10 : o = 10
 ·subst h10
  exact rdo_10 hN ht hen hp hq hzp hdn
 by_cases h11 : o = 11
 ·subst h11
  exact rdo_11 hN ht hen hp hq hzp hdn
 by_cases h12 : o = 12
 ·subst h12
  exact rdo_12 hN ht hen hp hq hzp hdn
 by_cases h13 : o = 13
 ·subst h13
  exact rdo_13 hN ht hen hp hq hzp hdn
 exact rdo_else hN ht hen hp hq hzp hdn (fun k a b e => by omega)
end
def plI (ms : List Nat) (i j : Nat) : Nat := if j ∈ ms.take i then ms.idxOf j else 0
theorem plI_zero (ms : List Nat) (j : Nat) : plI ms 0 j = 0 := by simp [plI]
theorem plI_step {ms : List Nat} (hn : ms.Nodup) {i : Nat} (hi : i < ms.length) (j : Nat) : plI ms (i + 1) j = if ms.getD i 0 = j then i else plI ms i j := by
 have hg : ms.getD i 0 = ms[i] := by simp [List.getD, hi]
 have e : ms.take (i + 1) = ms.take i ++ [ms[i]] := by
  rw [List.take_add_one, List.getElem?_eq_getElem hi]; rfl
 unfold plI
 rw [e, hg]
 by_cases h : ms[i] = j
 ·subst h
  rw [if_pos rfl, if_pos (List.mem_append_right _ (List.mem_singleton.2 rfl))]
  exact hn.idxOf_getElem i hi
 ·rw [if_neg h]
  have h2 : j ∈ ms.take i ++ [ms[i]] ↔ j ∈ ms.take i := by
   simp only [List.mem_append, List.mem_singleton]
   exact ⟨fun k => k.elim id fun e => absurd e.symm h, .inl⟩
  by_cases h3 : j ∈ ms.take i
  ·rw [if_pos (h2.2 h3), if_pos h3]
  ·rw [if_neg (fun k => h3 (h2.1 k)), if_neg h3]
theorem plI_end {ms : List Nat} {j : Nat} (h : j ∈ ms) : plI ms ms.length j = ms.idxOf j := by
 unfold plI
 rw [List.take_length, if_pos h]
def enK (F : Nat → Nat) (E : List En) (k : Nat) : List En := (E.take k).map (setI F) ++ E.drop k
theorem enK_zero (F : Nat → Nat) (E : List En) : enK F E 0 = E := by simp [enK]
theorem enK_end (F : Nat → Nat) (E : List En) : enK F E E.length = E.map (setI F) := by simp [enK]
theorem enK_at {F : Nat → Nat} {E : List En} {k : Nat} (h : k < E.length) : eat (enK F E k) k = eat E k := by
 have hl : ((E.take k).map (setI F)).length = k := by simp only [List.length_map, List.length_take]; omega
 simp only [eat, List.getD_eq_getElem?_getD, enK]
 rw [List.getElem?_append_right (by omega), hl, Nat.sub_self, List.getElem?_drop]
 simp
theorem enK_step {F : Nat → Nat} {E : List En} {k : Nat} (h : k < E.length) : (enK F E k).set k ⟨(eat E k).s, (F (inoN (eat E k)) : Int)⟩ = enK F E (k + 1) := by
 have hl : ((E.take k).map (setI F)).length = k := by simp only [List.length_map, List.length_take]; omega
 have e : E.take (k + 1) = E.take k ++ [eat E k] := by
  rw [List.take_add_one, List.getElem?_eq_getElem h]
  simp [eat, List.getD, h]
 have e2 : E.drop k = eat E k :: E.drop (k + 1) := by
  rw [List.drop_eq_getElem_cons h]
  simp [eat, List.getD, h]
 unfold enK
 rw [List.set_append_right _ _ (by omega), hl, Nat.sub_self, e2, List.set_cons_zero, e, List.map_append, List.append_assoc]
 rfl
theorem eflat_setI (L : List En) (k : Nat) (z : Int) (hk : k < L.length) : (L.flatMap ecl).set (k * 2 + 1) (.int .i64 z) = (L.set k ⟨(eat L k).s, z⟩).flatMap ecl := by
 induction L generalizing k with
 | nil => simp at hk
 | cons y L ih =>
  cases k with
  | zero => rfl
  | succ k =>
   have := ih k (by simpa using hk)
   have e : (k + 1) * 2 + 1 = (k * 2 + 1) + 1 + 1 := by omega
   rw [e]
   show _ = ecl y ++ (L.set k ⟨(eat L k).s, z⟩).flatMap ecl
   rw [← this]
   rfl
theorem OwnE.setI {w : World} {B g n c k : Nat} {L : List En} (h : OwnE w B (.slice (some ⟨g, 0, none⟩) n c) n L) (hk : k < n) (z : Int) :
  OwnE (w.setCell ⟨g, k * 2 + 1, none⟩ (.int .i64 z)) B (.slice (some ⟨g, 0, none⟩) n c) n (L.set k ⟨(eat L k).s, z⟩) := by
 have h1 := (World.ownsRow.stored h (k * 2 + 1) (.int .i64 z)).1
 rw [eflat_setI L k z (by rw [h.len]; exact hk)] at h1
 exact h1
theorem OwnE.freeJ {w : World} {B g n c : Nat} {L : List En} (h : OwnE w B (.slice (some ⟨g, 0, none⟩) n c) n L) (j : Nat) : w.frozen? ⟨g, j, none⟩ = false := World.ownsRow.frozenAt h j
def rn1 (L : List Nd) (a : Nat) : Nd := { ren (plc (chs L)) (nat L a) with l := (nat L a).l }
theorem lnk_like {L M : List Nd} (hl : L.length = M.length) (h : ∀ i, (nat L i).k = (nat M i).k ∧ (nat L i).e = (nat M i).e) (i : Nat) : lnk L i = lnk M i := by
 have hc : chs L = chs M := by funext a; simp only [chs, inos, (h a).2]
 have hd : ∀ j, isD (nat L j) = isD (nat M j) := fun j => by simp only [isD, (h j).1]
 have hi : inos (nat L i) = inos (nat M i) := by simp only [inos, (h i).2]
 simp only [lnk, up, hc, hd, hl, hi]
def num1 (L : List Nd) : List Nd := (met (chs L)).map (rn1 L)
theorem num1_len (L : List Nd) : (num1 L).length = (met (chs L)).length := by simp [num1]
theorem nat_num1 (L : List Nd) (i : Nat) : (nat (num1 L) i).k = (nat (numR L) i).k ∧ (nat (num1 L) i).e = (nat (numR L) i).e ∧ (nat (num1 L) i).d = (nat (numR L) i).d := by
 by_cases h : i < (met (chs L)).length
 ·have e1 : nat (num1 L) i = rn1 L ((met (chs L))[i]) := nat_map _ _ h
  have e2 : nat (numR L) i = ren (plc (chs L)) (nat L ((met (chs L))[i])) := nat_map _ _ h
  rw [e1, e2]
  exact ⟨rfl, rfl, rfl⟩
 ·rw [nat_out (by rw [num1_len]; omega), nat_out (by rw [numR_len]; omega)]
  exact ⟨rfl, rfl, rfl⟩
theorem lnk_num1 (L : List Nd) (i : Nat) : lnk (num1 L) i = lnk (numR L) i := lnk_like (by rw [num1_len, numR_len]) (fun j => ⟨(nat_num1 L j).1, (nat_num1 L j).2.1⟩) i
theorem num_of {L : List Nd} {g : Nat → Nc} {n : Nat} (hn : n = (met (chs L)).length) (h : ∀ j, j < n → (g j).nd = { nat (num1 L) j with l := lnk (num1 L) j }) : ndL g n = num L := by
 subst hn
 refine nat_ext (by rw [ndL_len, num, fixL_len, numR_len]) fun i hi => ?_
 rw [ndL_len] at hi
 rw [nat_ndL hi, h i hi, num, nat_fixL (by rw [numR_len]; exact hi), lnk_num1]
 have := nat_num1 L i
 simp only [this.1, this.2.1, this.2.2]
theorem num1_ok {L : List Nd} (h : Snd L) {g : Nat → Nc} (hg : ndL g (met (chs L)).length = num1 L) : EntOk (met (chs L)).length g ∧ ∀ i, i < (met (chs L)).length → isD (g i).nd = false → (g i).e = [] := by
 have hr := h.right
 have key : ∀ i, i < (met (chs L)).length → (g i).k = (nat (num L) i).k ∧ (g i).e = (nat (num L) i).e := fun i hi => by
  have h1 : (g i).nd = nat (num1 L) i := by rw [← hg, nat_ndL hi]
  have h2 := nat_num1 L i
  have h3 := nat_fixE (numR L) i
  have e1 : (g i).k = (nat (num1 L) i).k := congrArg Nd.k h1
  have e2 : (g i).e = (nat (num1 L) i).e := congrArg Nd.e h1
  unfold num
  exact ⟨e1.trans (h2.1.trans h3.2.1.symm), e2.trans (h2.2.1.trans h3.1.symm)⟩
 have hl : (num L).length = (met (chs L)).length := by rw [num, fixL_len, numR_len]
 have hf := hr.few
 rw [hl] at hf
 refine ⟨⟨hf, fun i hi => ?_⟩, fun i hi hd => ?_⟩
 ·rw [(key i hi).2]
  rcases hr.node i (by rw [hl]; exact hi) with h1 | h1
  ·rw [h1.1.2.1]
   exact ⟨by decide, fun y hy => by cases hy⟩
  ·refine ⟨h1.2.2.1, fun y hy => ?_⟩
   have h2 := h1.2.2.2.1 y hy; rw [hl] at h2
   exact ⟨by omega, h2.2.2⟩
 ·rw [(key i hi).2]
  rcases hr.node i (by rw [hl]; exact hi) with h1 | h1
  ·exact h1.1.2.1
  ·have h2 : isD (nat (num L) i) = true := isD_dir h1
   have h3 : isD (g i).nd = isD (nat (num L) i) := by
    show ((g i).k == 2) = ((nat (num L) i).k == 2)
    rw [(key i hi).1]
   rw [h3, h2] at hd
   cases hd
theorem rn1_at {L : List Nd} (h : Snd L) {i : Nat} (hi : i < (met (chs L)).length) : nat (num1 L) i = ⟨(nat L ((met (chs L)).getD i 0)).k, (nat L ((met (chs L)).getD i 0)).l, (nat L ((met (chs L)).getD i 0)).d, (nat L ((met (chs L)).getD i 0)).e.map (setI (plI (met (chs L)) (met (chs L)).length))⟩ := by
 have hg : (met (chs L)).getD i 0 = (met (chs L))[i] := by simp [List.getD, hi]
 have hm : (met (chs L))[i] ∈ met (chs L) := List.getElem_mem hi
 rw [hg, num1, nat_map _ _ hi]
 have e : (nat L (met (chs L))[i]).e.map (setI (plc (chs L))) = (nat L (met (chs L))[i]).e.map (setI (plI (met (chs L)) (met (chs L)).length)) := by
  refine List.map_congr_left fun y hy => ?_
  have hk : inoN y ∈ met (chs L) := h.closed _ hm _ (List.mem_map.2 ⟨y, hy, rfl⟩)
  simp only [setI]
  rw [plI_end hk]
  rfl
 show Nd.mk _ _ _ ((nat L (met (chs L))[i]).e.map (setI (plc (chs L)))) = _
 rw [e]
 rfl
structure NmI (wH : World) (x3 i : Nat) (v : Value) (g : Nat → Nc) (wr : World) : Prop where
 bel : Below wH.heap.size wH wr
 out : TrB wr x3 v
 own : OwN wr v i g
 ge : ∀ j, v.ownBlock = some j → wH.heap.size ≤ j ∧ j ≠ x3
 at3 : wH.heap.size ≤ x3
section
variable {wH wr w' : World} {x3 i : Nat} {v : Value} {g : Nat → Nc}
theorem NmI.next (h : NmI wH x3 i v g wr) (hb : Below wr.heap.size wr w') : NmI wH x3 i v g w' :=
 ⟨h.bel.trans (hb.mono h.bel.size), (hb.block _ (lt_of_block h.out)).trans h.out, h.own.next hb, h.ge, h.at3⟩
theorem NmI.put {gb n cg : Nat} {g' : Nat → Nc} (h : NmI wH x3 i (.slice (some ⟨gb, 0, none⟩) n cg) g wr) (hO : OwN w' (.slice (some ⟨gb, 0, none⟩) n cg) i g') (hT : Turn (· = gb) wr w') : NmI wH x3 i (.slice (some ⟨gb, 0, none⟩) n cg) g' w' := by
 have hg := h.ge gb rfl
 exact ⟨h.bel.trans (hT.below h.bel.size fun k e => by rw [e]; exact hg.1), (hT.block x3 (lt_of_block h.out) (fun e => hg.2 e.symm)).trans h.out, hO, h.ge, h.at3⟩
theorem NmI.grow {i' n' gb cg : Nat} {g' : Nat → Nc} (h : NmI wH x3 i v g wr) (hO : OwN w' (.slice (some ⟨gb, 0, none⟩) n' cg) i' g') (hT : Turn (fun j => v.ownBlock = some j) wr w') (hG : v.ownBlock = some gb ∨ wr.heap.size ≤ gb) :
  NmI wH x3 i' (.slice (some ⟨gb, 0, none⟩) n' cg) g' (w'.setCell ⟨x3, 0, none⟩ (.slice (some ⟨gb, 0, none⟩) n' cg)) ∧ TrB w' x3 v := by
 have o3 : TrB w' x3 v := (hT.block x3 (lt_of_block h.out) (fun e => (h.ge x3 e).2 rfl)).trans h.out
 have hge : wH.heap.size ≤ gb ∧ gb ≠ x3 := by
  rcases hG with e | e
  ·exact h.ge gb e
  ·have a3 := lt_of_block h.out
   have := h.bel.size
   exact ⟨by omega, by omega⟩
 have hT3 : Turn (· = x3) w' (w'.setCell ⟨x3, 0, none⟩ (.slice (some ⟨gb, 0, none⟩) n' cg)) := turn_set w' x3 0 _
 have hb' : Below wH.heap.size wH w' := h.bel.trans (hT.below h.bel.size fun k e => (h.ge k e).1)
 refine ⟨⟨hb'.trans (hT3.below hb'.size fun k e => by rw [e]; exact h.at3), TrB.set o3 _, ?_, fun j hj => ?_, h.at3⟩, o3⟩
 ·exact hO.turnO (h.own.oddV' o3 h.own.form) hT3 (by simpa [Value.ownBlock] using hge.2)
 ·have ej : gb = j := by simpa [Value.ownBlock] using hj
  subst ej
  exact hge
end
section
variable {w : World} {gb n c i : Nat} {g : Nat → Nc}
theorem OwN.setL (h : OwN w (.slice (some ⟨gb, 0, none⟩) n c) n g) (hi : i < n) (z : Int) :
  OwN (w.setCell ⟨gb, 0 + i * 4 + 1, none⟩ (.int .i64 z)) (.slice (some ⟨gb, 0, none⟩) n c) n (updN g i { g i with l := z }) := by
 have ht : Turn (· = gb) w (w.setCell ⟨gb, 0 + i * 4 + 1, none⟩ (.int .i64 z)) := Turn.setCell (M := (· = gb)) (a := ⟨gb, 0 + i * 4 + 1, none⟩) w rfl _
 have h1 := (h.row.stored (0 + i * 4 + 1) (.int .i64 z)).1
 have e0 : 0 + i * 4 + 1 = i * 4 + 1 := by omega
 have hu : ∀ j, (updN g i { g i with l := z } j).da = (g j).da ∧ (updN g i { g i with l := z } j).dn = (g j).dn ∧ (updN g i { g i with l := z } j).dc = (g j).dc ∧ (updN g i { g i with l := z } j).d = (g j).d ∧
   (updN g i { g i with l := z } j).ea = (g j).ea ∧ (updN g i { g i with l := z } j).en = (g j).en ∧ (updN g i { g i with l := z } j).ec = (g j).ec ∧ (updN g i { g i with l := z } j).e = (g j).e := fun j => by
  by_cases e : j = i
  ·subst e; rw [updN_same]; exact ⟨rfl, rfl, rfl, rfl, rfl, rfl, rfl, rfl⟩
  ·rw [updN_other _ _ e]; exact ⟨rfl, rfl, rfl, rfl, rfl, rfl, rfl, rfl⟩
 refine ⟨?_, fun j hj => ?_, fun j hj => ?_⟩
 ·rw [e0, nflat_upd g (x := { g i with l := z }) _ hi (by omega) rfl] at h1
  rw [e0]
  exact h1
 ·obtain ⟨u1, u2, u3, u4, _⟩ := hu j
  rw [u1, u2, u3, u4]
  have hd := h.data j hj
  exact ⟨hd.1.turn ht fun h0 b off ha => (hd.2 gb rfl h0 b off ha).1, hd.2⟩
 ·obtain ⟨_, _, _, _, u1, u2, u3, u4⟩ := hu j
  rw [u1, u2, u3, u4]
  have he := h.ents j hj
  exact ⟨he.1.turn ht fun h0 b off ha => (he.2 gb rfl h0 b off ha).1, he.2⟩
end
end Go.Proofs.YtinholnidchblaaGreatDoor
