import Derived.Test.YtinholnidchblaaGreatDoorQao
import Derived.Test.YtinholnidchblaaGreatDoorQah
import Derived.Test.YtinholnidchblaaGreatDoorQaa
import Derived.Test.YtinholnidchblaaGreatDoorQac
import Derived.Test.YtinholnidchblaaGreatDoorQae
set_option linter.unusedVariables false
set_option linter.unusedSimpArgs false
set_option maxRecDepth 100000
set_option maxHeartbeats 16000000
namespace Go.Proofs.YtinholnidchblaaGreatDoor
open Go.RowKit
def fiO (L : List Nd) (P : Option (List ByteArray)) : Int × Int := if rightB L then (match findO L P with | .ok k => ((k : Nat), 0) | .error x => (0, x)) else (0, 15)
def InB (w : World) (b : Nat) (v : Int) : Prop := w.heap[b]? = some (.cells #[.int .i64 v] 3 (0, 0))
theorem InB.cell {w : World} {b : Nat} {v : Int} (h : InB w b v) : w.cell? ⟨b, 0, none⟩ = some (.int .i64 v) := by
 unfold InB at h
 simp [World.cell?, h]
theorem InB.free {w : World} {b : Nat} {v : Int} (h : InB w b v) (i : Nat) : w.frozen? ⟨b, i, none⟩ = false := frozen_of_row w b i _ _ h
theorem InB.set {w : World} {b : Nat} {v : Int} (h : InB w b v) (x : Int) : InB (w.setCell ⟨b, 0, none⟩ (.int .i64 x)) b x := cells_set h
def SxB (w : World) (b : Nat) (v : ByteArray) : Prop := w.heap[b]? = some (.cells #[.string v] 9 (0, 0))
theorem SxB.cell {w : World} {b : Nat} {v : ByteArray} (h : SxB w b v) : w.cell? ⟨b, 0, none⟩ = some (.string v) := by
 unfold SxB at h
 simp [World.cell?, h]
def Fi1Post (w : World) (q6 : Nat) (r : Except Int Nat) (x : Int) (w' : World) : Prop :=
 Turn (· = q6) w w' ∧ (x = 0 → ∃ k, r = .ok k ∧ InB w' q6 (k : Nat)) ∧ (x ≠ 0 → r = .error x ∧ InB w' q6 0)
section
variable {w : World} {n c b off : Nat} {f : Nat → Nc}
theorem fi1_any {q2 q3 q6 : Nat} (h : Nds w (some ⟨b, off, none⟩) n f) (ht : Rgt (ndL f n)) (p : ByteArray) (hp : p.size < 4294967281) (h2 : TrB w q2 (.slice (some ⟨b, off, none⟩) n c)) (h3 : SxB w q3 p) (h6 : InB w q6 0) (n2 : q2 ≠ q6) (n3 : q3 ≠ q6) :
  Calls Tryz.prog 45 #[.pointer (some ⟨q2, 0, none⟩), .pointer (some ⟨q3, 0, none⟩), .pointer (some ⟨q6, 0, none⟩)] w fun e w' =>
   ∃ x, ((e = .returned (.tuple #[]) ∧ x = 0) ∨ e = .panicked [pe x]) ∧ Fi1Post w q6 (findO (ndL f n) (nms p)) x w' := by
 have c2 := h2.cell
 have c3 := h3.cell
 have H := qH (And.intro h (And.intro ht hp))
 have H2 := qH (And.intro h2 (And.intro h3 (And.intro h6 (And.intro n2 n3))))
 clear h ht hp h2 h3 h6
 go_enter Tryz.func45, Tryz.ntmps45
 refine wp_region_held_drew (S := (fun w' => w'.cell? ⟨q2, 0, none⟩ = some (.slice (some ⟨b, off, none⟩) n c) ∧ w'.cell? ⟨q3, 0, none⟩ = some (.string p))) (by kernel_rfl) ?_ (fun hHeld => ?_)
 ·exact ⟨c2, c3⟩
 refine rgZ 0 ?_ rfl (.inl ⟨by rfl, fun w hSw => ?_⟩) ?_ (by kernel_rfl) (fun _ _ _ h => h) (by assumption)
 rotate_left
 ·(try dsimp only at hSw); go_simp; try with_reducible rfl
 simp only [Act.put, rg]
 refine rgZ 2 ?_ rfl (.inl ⟨by rfl, fun w hSw => ?_⟩) ?_ (by kernel_rfl) (fun _ _ _ h => h) (by assumption)
 rotate_left
 ·(try dsimp only at hSw); go_simp; try with_reducible rfl
 simp only [Act.put, rg]
 refine rgC 1 rfl (by kernel_rfl) (fun K hK => ?_)
 simp only [rg4, rg5, rg6]
 go_simp
 have hbz : Below w.heap.size w (w.drew) := below_drewN (Below.refl _ _) 1
 have hwo := workerOn_any (c := c) (H.out.1.next hbz) H.out.2.1.le.1 (Nat.le_trans H.out.2.1.le.2 (by decide))
 refine hwo.mono ?_
 rintro e w3 ⟨wb, g, c', rfl, hWo, hg, hwb, hb3⟩
 have hb3' : Below w.heap.size w w3 := hbz.trans (hb3.mono hbz.size)
 have hat := at_any hWo.wr H.out.2.1 p H.out.2.2
 have c23 := (hb3'.cell (p := ⟨q2, 0, none⟩) (lt_of_block H2.out.1)).trans c2
 have c33 := (hb3'.cell (p := ⟨q3, 0, none⟩) (lt_of_block H2.out.2.1)).trans c3
 have HB3 := qH hb3'
 clear hwo hWo hg hwb hb3 hbz hHeld hb3' c2 c3
 go_wp2_with fail
 refine hK.out _ _ ⟨c23, c33⟩ (fun _ => ?_)
 clear hK K
 refine rgC 3 rfl (by kernel_rfl) (fun K hK => ?_)
 simp only [rg4, rg5, rg6]
 go_simp
 refine hat.mono ?_
 rintro e w4 ⟨rfl, hb4⟩
 have HB4 := qH (HB3.out.trans (hb4.mono HB3.out.size))
 have c24 := (hb4.cell (p := ⟨q2, 0, none⟩) (Nat.lt_of_lt_of_le (lt_of_block H2.out.1) HB3.out.size)).trans c23
 have c34 := (hb4.cell (p := ⟨q3, 0, none⟩) (Nat.lt_of_lt_of_le (lt_of_block H2.out.2.1) HB3.out.size)).trans c33
 clear hat hb4 c23 c33
 cases hf : findO (ndL f n) (nms p) with
 | error x =>
  have hx0 := findO_err hf
  have HX := qH (And.intro hf hx0)
  clear hf hx0
  unfold ThrE
  go_wp2_with fail
  have hT : Turn (· = q6) w w4 := Turn.of_below HB4.out
  exact ⟨rfl, x, .inr rfl, hT, fun h => absurd h HX.out.2, fun _ => ⟨rfl, (HB4.out.block q6 (lt_of_block H2.out.2.2.1)).trans H2.out.2.2.1⟩⟩
 | ok k =>
  have i6 : InB w4 q6 0 := (HB4.out.block q6 (lt_of_block H2.out.2.2.1)).trans H2.out.2.2.1
  have c6 := i6.cell
  have f6 := i6.free 0
  have lt6 := lt_of_block i6
  have HX := qH hf
  have HI6 := qH i6
  clear hf i6
  unfold ThrE
  go_wp2_with fail
  refine hK.out _ _ ⟨c24, c34⟩ (fun _ => ?_)
  clear hK K
  refine rgC 4 rfl (by kernel_rfl) (fun K hK => ?_)
  simp only [rg4, rg5, rg6]
  go_simp
  have hT9 : Turn (· = q6) w4 (w4.setCell ⟨q6, 0, none⟩ (.int .i64 k)) := (Turn.refl (· = q6) w4).setO (p := ⟨q6, 0, none⟩) rfl _
  have c25 := (hT9.cell (a := ⟨q2, 0, none⟩) (World.block_lt_of_cell? w4 _ c24) H2.out.2.2.2.1).trans c24
  have c35 := (hT9.cell (a := ⟨q3, 0, none⟩) (World.block_lt_of_cell? w4 _ c34) H2.out.2.2.2.2).trans c34
  have HT9 := qH hT9
  clear hT9 c24 c34 c6 f6
  refine hK.out _ _ ⟨c25, c35⟩ (fun _ => ?_)
  clear hK K c25 c35
  refine wpAnyH_done (by kernel_rfl) ?_ _
  go_end0
  have hT : Turn (· = q6) w w4 := Turn.of_below HB4.out
  exact ⟨0, .inl ⟨rfl, rfl⟩, hT.trans HT9.out, fun _ => ⟨k, HX.out, HI6.out.set _⟩, fun h => absurd rfl h⟩
theorem fmid_any {w2 : World} {q2 q3 : Nat} (h : Nds w2 (some ⟨b, off, none⟩) n f) (ht : Rgt (ndL f n)) (p : ByteArray) (hp : p.size < 4294967281) (h2 : TrB w2 q2 (.slice (some ⟨b, off, none⟩) n c)) (h3 : SxB w2 q3 p) :
  Calls Tryz.prog 37 #[.func (.func 45) #[] #[.pointer (some ⟨q2, 0, none⟩), .pointer (some ⟨q3, 0, none⟩), .pointer (some ⟨w2.heap.size, 0, none⟩)]]
   (w2.alloc (.cells #[.int .i64 0] 3 (0, 0))) fun e w6 => ∃ x, e = .returned (.int .i64 x) ∧ Below w2.heap.size w2 w6 ∧ (x = 0 → ∃ k, findO (ndL f n) (nms p) = .ok k ∧ InB w6 w2.heap.size (k : Nat)) ∧ (x ≠ 0 → findO (ndL f n) (nms p) = .error x ∧ InB w6 w2.heap.size 0) := by
 obtain ⟨wq, hwq⟩ : ∃ wq, wq = w2.alloc (.cells #[.int .i64 0] 3 (0, 0)) := ⟨_, rfl⟩
 obtain ⟨wy, hwy⟩ : ∃ wy, wy = wq.alloc (.cells #[.int .i64 0] 34 (0, 0)) := ⟨_, rfl⟩
 have k1 : ∀ (w : World) (o : Obj), (w.alloc o).heap.size = w.heap.size + 1 := fun w o => by simp
 have sq : wq.heap.size = w2.heap.size + 1 := by rw [hwq, k1]
 have sy : wy.heap.size = w2.heap.size + 1 + 1 := by rw [hwy, k1, sq]
 have bq : Below w2.heap.size w2 wq := by rw [hwq]; exact (Below.refl _ _).alloc (Nat.le_refl _) _
 have byy : Below w2.heap.size w2 wy := by rw [hwy]; exact bq.alloc bq.size _
 have xq : InB wq w2.heap.size 0 := by rw [hwq]; exact heap_alloc_new w2 _
 have x6 : InB wy w2.heap.size 0 := by rw [hwy]; exact (Below.heap_alloc _ _ _ (lt_of_block xq)).trans xq
 have xy := heap_alloc_new wq (.cells #[.int .i64 0] 34 (0, 0))
 rw [← hwy, sq] at xy
 have l2 := lt_of_block h2
 have l3 := lt_of_block h3
 have hd := fi1_any (c := c) (q2 := q2) (q3 := q3) (q6 := w2.heap.size) (h.next byy) ht p hp ((byy.block q2 l2).trans h2) ((byy.block q3 l3).trans h3) x6 (by omega) (by omega)
 rw [← hwq]
 refine (tried_find ⟨q2, 0, none⟩ ⟨q3, 0, none⟩ ⟨w2.heap.size, 0, none⟩ wq (fun x w' => Fi1Post wy w2.heap.size (findO (ndL f n) (nms p)) x w') ?_).mono ?_
 ·rw [← hwy, sq]
  refine hd.mono ?_
  rintro e w5 ⟨x, hex, hP⟩
  have h8 : w5.heap[w2.heap.size + 1]? = some (.cells #[.int .i64 0] 34 (0, 0)) := (hP.1.block _ (by omega) (by omega)).trans xy
  exact ⟨x, hex, by simp [World.cell?, h8], frozen_of_row w5 _ _ _ _ h8, hP⟩
 ·rintro e w6 ⟨x, w5, rfl, ⟨hT, hyes, hno⟩, hw6⟩
  rw [sq] at hw6
  have hT6 : Turn (· = w2.heap.size + 1) w5 w6 := by rw [hw6]; exact (Turn.refl (· = w2.heap.size + 1) w5).setO (p := ⟨w2.heap.size + 1, 0, none⟩) rfl _
  have s5 := hT.size
  have hb6 : Below w2.heap.size w2 w6 := (byy.trans (hT.below (by omega) (fun k e => by omega))).trans (hT6.below (by omega) (fun k e => by omega))
  refine ⟨x, rfl, hb6, fun hx => ?_, fun hx => ?_⟩
  ·obtain ⟨k, hk, hi⟩ := hyes hx
   exact ⟨k, hk, (hT6.block _ (by omega) (by omega)).trans hi⟩
  ·obtain ⟨hk, hi⟩ := hno hx
   exact ⟨hk, (hT6.block _ (by omega) (by omega)).trans hi⟩
end
section
variable {w : World} {n c : Nat} {na : Option Addr} {f : Nat → Nc}
theorem tfind_any (h : Nds w na n f) (hn : n ≤ 1000000) (hen : ∀ i, i < n → (f i).en ≤ 1000000) (p : ByteArray) (hp : p.size < 4294967281) :
  Calls Tryz.prog 25 #[.agg #[.slice na n c], .string p] w fun e w' => e = .returned (.tuple #[.int .i64 (fiO (ndL f n) (nms p)).1, .int .i64 (fiO (ndL f n) (nms p)).2]) ∧ Below w.heap.size w w' := by
 have hmf : ∀ (fn : Fn) (first cap : Array Value) (w : World), (Instr.makeFunc fn first cap).run Tryz.prog w = .ok (.func fn first cap) w := fun _ _ _ _ => rfl
 obtain ⟨wa, ha⟩ : ∃ wa, wa = w.alloc (.cells #[.slice na n c] 26 (0, 0)) := ⟨_, rfl⟩
 obtain ⟨w1, hw1⟩ : ∃ w1, w1 = wa.alloc (.cells #[.string p] 9 (0, 0)) := ⟨_, rfl⟩
 obtain ⟨q, hq⟩ : ∃ q, q = w.heap.size := ⟨_, rfl⟩
 have k1 : ∀ (w : World) (o : Obj), (w.alloc o).heap.size = w.heap.size + 1 := fun w o => by simp
 have sa : wa.heap.size = q + 1 := by rw [ha, k1, hq]
 have s1 : w1.heap.size = q + 1 + 1 := by rw [hw1, k1, sa]
 have ba : Below w.heap.size w wa := by rw [ha]; exact (Below.refl _ _).alloc (Nat.le_refl _) _
 have b1 : Below w.heap.size w w1 := by rw [hw1]; exact ba.alloc ba.size _
 have xa : TrB wa q (.slice na n c) := by rw [ha, hq]; exact heap_alloc_new w _
 have x1 : TrB w1 q (.slice na n c) := by rw [hw1]; exact (Below.heap_alloc _ _ _ (lt_of_block xa)).trans xa
 have xs := heap_alloc_new wa (.cells #[.string p] 9 (0, 0))
 rw [← hw1, sa] at xs
 have x2 : SxB w1 (q + 1) p := xs
 have hri := right_any (c := c) (h.next b1) hn hen
 have HX := qH (And.intro b1 (And.intro x1 (And.intro x2 (And.intro (h.next b1) (And.intro hn hp)))))
 have l2 := x1.load
 have c2 := x1.cell
 have HQ := qH (And.intro hq s1)
 clear h hn hen hp sa ba b1 xa x1 xs x2 s1
 cases hr : rightB (ndL f n) with
 | false =>
  rw [hr] at hri
  have HD : Hid (fiO (ndL f n) (nms p) = (0, 15)) := qH (by rw [fiO, hr]; rfl)
  clear hr
  go_enter Tryz.func25, Tryz.ntmps25
  go_wp2_with fail
  rw [← ha, ← hw1, ← hq]
  clear ha hw1 hq
  refine hri.mono ?_
  rintro e w2 ⟨rfl, hb2⟩
  have HB2 := qH (HX.out.1.trans (hb2.mono HX.out.1.size))
  clear hri hb2 l2 c2
  go_wp2_with fail
  go_ret2
  exact ⟨by rw [HD.out]; rfl, HB2.out⟩
 | true =>
  have hrg := rightB_iff.1 hr
  obtain ⟨b, off, rfl, hbl, d0, d1, d2, d3⟩ := HX.out.2.2.2.1.at (show 0 < n by have := hrg.le; omega)
  rw [hr] at hri
  have HD : Hid (fiO (ndL f n) (nms p) = match findO (ndL f n) (nms p) with | .ok k => ((k : Nat), 0) | .error x => (0, x)) := qH (by rw [fiO, hr]; rfl)
  have HRG := qH hrg
  clear hr hrg d0 d1 d2 d3 hbl
  go_enter Tryz.func25, Tryz.ntmps25
  go_wp2_with fail
  rw [← ha, ← hw1, ← hq]
  clear ha hw1 hq
  refine hri.mono ?_
  rintro e w2 ⟨rfl, hb2⟩
  have HB2 := qH hb2
  clear hri hb2 l2 c2
  go_wp2_with fail
  have hmid := fmid_any (c := c) (q2 := q) (q3 := q + 1) (HX.out.2.2.2.1.next HB2.out) HRG.out p HX.out.2.2.2.2.2 ((HB2.out.block q (lt_of_block HX.out.2.1)).trans HX.out.2.1) ((HB2.out.block _ (lt_of_block HX.out.2.2.1)).trans HX.out.2.2.1)
  refine hmid.mono ?_
  rintro e w6 ⟨x, rfl, hb6, hyes, hno⟩
  have HB6 := qH (HX.out.1.trans ((HB2.out.trans (hb6.mono HB2.out.size)).mono HX.out.1.size))
  obtain ⟨x6, hx6⟩ : ∃ x6, x6 = w2.heap.size := ⟨_, rfl⟩
  rw [← hx6] at hyes hno ⊢
  clear hmid hb6 hx6
  by_cases hx0 : x = 0
  ·obtain ⟨k, hk, hi⟩ := hyes hx0
   subst hx0; have HK := qH hk; have c6 := hi.cell; clear hyes hno hk hi; go_wp2_with fail
   go_ret2
   exact ⟨by rw [HD.out, HK.out]; rfl, HB6.out⟩
  ·obtain ⟨hk, hi⟩ := hno hx0
   have HK := qH hk; have c6 := hi.cell; clear hyes hno hk hi hx0; go_wp2_with fail
   go_ret2
   exact ⟨by rw [HD.out, HK.out]; rfl, HB6.out⟩
end
def LikeTo (L M : List (List UInt8)) (k : Nat) : Prop := ∀ j, j < k → tat L j = tat M j
theorem LikeTo.zero (L M : List (List UInt8)) : LikeTo L M 0 := fun j h => by omega
theorem LikeTo.succ {L M : List (List UInt8)} {k : Nat} (h : LikeTo L M k) (e : tat L k = tat M k) : LikeTo L M (k + 1) := fun j hj => by
 by_cases hk : j = k
 ·rw [hk]; exact e
 ·exact h j (by omega)
theorem text_neq {x y : List UInt8} (h : x ≠ y) : ((tx x).toList == (tx y).toList) = false := by
 rw [Lib.toList_data, Lib.toList_data, data_tx, data_tx]
 exact beq_eq_false_iff_ne.2 h
theorem text_eq (x : List UInt8) : ((tx x).toList == (tx x).toList) = true := by simp
theorem sameT_any (a b : Option Addr) (n m c d : Nat) (L M : List (List UInt8)) (w : World) (h1 : Sts w a n L) (h2 : Sts w b m M) (hn : n ≤ 1000000000000) (hm : m ≤ 1000000000000) :
  Calls Tryz.prog 34 #[.slice a n c, .slice b m d] w fun e w' => e = .returned (.bool (decide (L = M))) ∧ Below w.heap.size w w' := by
 have hl1 := h1.len
 have hl2 := h2.len
 by_cases hnm : n = m
 ·subst hnm
  have HL1 := qH hl1
  have HL2 := qH hl2
  clear hl1 hl2
  go_enter Tryz.func34, Tryz.ntmps34
  go_wp2_with fail
  go_loopw [5] (fun v wr => ∃ k : Nat, k ≤ n ∧ v = .int .i64 k ∧ (∃ q, wr = w.drewN q) ∧ LikeTo L M k) (fun v _ => n - (RowKit.intOf v).toNat)
  case atStart => exact ⟨0, by omega, rfl, ⟨0, rfl⟩, LikeTo.zero _ _⟩
  case round =>
   obtain ⟨k, hk, rfl, ⟨q, hq⟩, hI⟩ := hrel; have HI := qH hI
   have hB : Below w.heap.size w wr := by rw [hq]; exact below_drewN (Below.refl _ _) q
   have HQ := qH hq; have HB := qH hB; clear hq hI
   by_cases hlt : k < n
   ·obtain ⟨g1, o1, rfl, l1, c1⟩ := h1.at (by omega)
    obtain ⟨g2, o2, rfl, l2, c2⟩ := h2.at (by omega)
    have k0 : (0 : Int) ≤ (k : Int) := by omega
    have k1 : (k : Int) < (n : Int) := by omega
    have x1 := (hB.cell (p := ⟨g1, o1 + k, none⟩) l1).trans (c1 k hlt); have x2 := (hB.cell (p := ⟨g2, o2 + k, none⟩) l2).trans (c2 k hlt); clear h1 h2 c1 c2 hB
    by_cases he : tat L k = tat M k
    ·have ht := text_eq (tat M k)
     rw [he] at x1; go_wp2_with fail
     go_quiet (fail)
     go_wp2_with fail
     go_roundw
     case rel => exact ⟨k + 1, by omega, by go_num, ⟨q + nq, by rw [HQ.out, World.drewN_drewN]⟩, HI.out.succ he⟩
     case measure => simp [RowKit.intOf]; omega
    ·have ht := text_neq he
     have hne := qH (show L ≠ M from fun e => he (by rw [e])); clear he; go_wp2_with fail
     go_quiet (fail)
     go_wp2_with fail; go_ret
     exact ⟨by rw [decide_eq_false hne.out]; rfl, below_drewN HB.out _⟩
   ·obtain rfl : k = n := by omega
    clear h1 h2 hB; have heq := qH (show L = M from tat_ext (by rw [HL1.out, HL2.out]) fun i hi => HI.out i (by rw [← HL1.out]; exact hi)); go_wp2_with fail; go_ret
    exact ⟨by rw [decide_eq_true heq.out]; rfl, HB.out⟩
 ·have kn : ¬ (n : Int) = (m : Int) := by omega
  have hne := qH (show L ≠ M from fun e => hnm (by rw [← hl1, ← hl2, e]))
  clear h1 h2 hl1 hl2
  go_enter Tryz.func34, Tryz.ntmps34
  go_wp2_with fail
  go_ret
  exact ⟨by rw [decide_eq_false hne.out]; rfl, Below.refl _ _⟩
def Few (n : Nat) (f : Nat → Nc) : Prop := n ≤ 1000000 ∧ ∀ i, i < n → (f i).dn ≤ 1000000 ∧ (f i).en ≤ 1000000
def EqTo (f g : Nat → Nc) (k : Nat) : Prop := ∀ j, j < k → (f j).nd = (g j).nd
theorem EqTo.succ {f g : Nat → Nc} {k : Nat} (h : EqTo f g k) (e : (f k).nd = (g k).nd) : EqTo f g (k + 1) := fun j hj => by
 by_cases hk : j = k
 ·rw [hk]; exact e
 ·exact h j (by omega)
theorem ndL_ne {f g : Nat → Nc} {n k : Nat} (hk : k < n) (h : (f k).nd ≠ (g k).nd) : decide (ndL f n = ndL g n) = false := decide_eq_false fun e => h (by rw [← nat_ndL hk, e, nat_ndL hk])
theorem ndL_eq {f g : Nat → Nc} {n : Nat} (h : EqTo f g n) : decide (ndL f n = ndL g n) = true := decide_eq_true (List.map_congr_left fun i hi => h i (List.mem_range.1 hi))
section
variable {w : World} {n m c d : Nat} {a b : Option Addr} {f g : Nat → Nc}
theorem sameTree_any (h1 : Nds w a n f) (h2 : Nds w b m g) (w1 : Few n f) (w2 : Few m g) :
  Calls Tryz.prog 22 #[.agg #[.slice a n c], .agg #[.slice b m d]] w fun e w' => e = .returned (.bool (decide (ndL f n = ndL g m))) ∧ Below w.heap.size w w' := by
 by_cases hl : n = m
 ·subst hl
  have H := qH (And.intro h1 (And.intro h2 (And.intro w1 w2)))
  obtain ⟨wa, ha⟩ : ∃ wa, wa = (w.alloc (.cells #[.slice a n c] 26 (0, 0))).alloc (.cells #[.slice b n d] 26 (0, 0)) := ⟨_, rfl⟩
  obtain ⟨q, hq⟩ : ∃ q, q = w.heap.size := ⟨_, rfl⟩
  have hba : Below w.heap.size w wa := by rw [ha]; exact ((Below.refl _ _).alloc (Nat.le_refl _) _).alloc (by simp) _
  have c1 : wa.cell? ⟨q, 0, none⟩ = some (.slice a n c) := by rw [ha, hq]; simp
  have c2 : wa.cell? ⟨q + 1, 0, none⟩ = some (.slice b n d) := by rw [ha, hq]; simp
  have sa : wa.heap.size = q + 1 + 1 := by rw [ha, hq]; simp
  have HB := qH hba
  have HC := qH (And.intro c1 (And.intro c2 sa))
  have hnn : n ≤ 1000000 := w1.1
  clear h1 h2 w1 w2 hba sa
  go_enter Tryz.func22, Tryz.ntmps22
  go_wp2_with fail
  rw [← ha, ← hq]
  clear ha hq
  go_loopw [5] (fun v wr => ∃ k : Nat, k ≤ n ∧ v = .int .i64 k ∧ Below wa.heap.size wa wr ∧ EqTo f g k) (fun v _ => n - (RowKit.intOf v).toNat)
  case atStart => exact ⟨0, Nat.zero_le _, rfl, Below.refl _ _, fun j hj => by omega⟩
  case round =>
   obtain ⟨k, hk, rfl, hB, hI⟩ := hrel; have HI := qH hI; have HB2 := qH hB; have c11 := (hB.cell (p := ⟨q, 0, none⟩) (by show q < _; have := HC.out.2.2; omega)).trans c1; have c21 := (hB.cell (p := ⟨q + 1, 0, none⟩) (by show q + 1 < _; have := HC.out.2.2; omega)).trans c2
   by_cases hlt : k < n
   ·have hBw : Below w.heap.size w wr := HB.out.trans (hB.mono HB.out.size)
    obtain ⟨b1, o1, rfl, hl1, d0, d1, d2, d3⟩ := (H.out.1.next hBw).at hlt; obtain ⟨b2, o2, rfl, hl2, e0, e1, e2, e3⟩ := (H.out.2.1.next hBw).at hlt
    have k0 : (0 : Int) ≤ (k : Int) := by omega
    have k1 : (k : Int) < (n : Int) := by omega
    obtain ⟨wS, hwS⟩ : ∃ wS, wS = (wr.alloc (.cells #[.int .i64 (f k).k, .int .i64 (f k).l, .slice (f k).da (f k).dn (f k).dc, .slice (f k).ea (f k).en (f k).ec] 54 (0, 0))).alloc (.cells #[.int .i64 (g k).k, .int .i64 (g k).l, .slice (g k).da (g k).dn (g k).dc, .slice (g k).ea (g k).en (g k).ec] 54 (0, 0)) := ⟨_, rfl⟩
    obtain ⟨x, hx⟩ : ∃ x, x = wr.heap.size := ⟨_, rfl⟩
    have hbS : Below wr.heap.size wr wS := by rw [hwS]; exact ((Below.refl _ _).alloc (Nat.le_refl _) _).alloc (by simp) _
    have hS : wS.heap.size = x + 1 + 1 := by rw [hwS, hx]; simp
    have y0 : NdB1 wS x #[.int .i64 (f k).k, .int .i64 (f k).l, .slice (f k).da (f k).dn (f k).dc, .slice (f k).ea (f k).en (f k).ec] := by
     rw [hwS, hx]
     exact (Below.heap_alloc _ _ _ (by simp)).trans (heap_alloc_new wr _)
    have y1 : NdB1 wS (x + 1) #[.int .i64 (g k).k, .int .i64 (g k).l, .slice (g k).da (g k).dn (g k).dc, .slice (g k).ea (g k).en (g k).ec] := by
     rw [hwS, hx]; have := heap_alloc_new (wr.alloc (.cells #[.int .i64 (f k).k, .int .i64 (f k).l, .slice (f k).da (f k).dn (f k).dc, .slice (f k).ea (f k).en (f k).ec] 54 (0, 0))) (.cells #[.int .i64 (g k).k, .int .i64 (g k).l, .slice (g k).da (g k).dn (g k).dc, .slice (g k).ea (g k).en (g k).ec] 54 (0, 0))
     have e : (wr.alloc (.cells #[.int .i64 (f k).k, .int .i64 (f k).l, .slice (f k).da (f k).dn (f k).dc, .slice (f k).ea (f k).en (f k).ec] 54 (0, 0))).heap.size = wr.heap.size + 1 := by simp
     rw [e] at this
     exact this
    obtain ⟨p0, p1, p2, p3⟩ := y0.cells; obtain ⟨r0, r1, r2, r3⟩ := y1.cells; have HBS := qH (hBw.trans (hbS.mono hBw.size)); have HBR := qH (hB.trans (hbS.mono hB.size)); have HY := qH (And.intro y0 (And.intro y1 hS)); have hsb := same_any (f k).da (g k).da (f k).dn (f k).dc (g k).dn (g k).dc (f k).d (g k).d wS ((H.out.1.next HBS.out).data k hlt).bys ((H.out.2.1.next HBS.out).data k hlt).bys (by have := (H.out.2.2.1.2 k hlt).1; omega)
    have hq0 : q < wr.heap.size := by have := HC.out.2.2; have := hB.size; omega
    have hq1 : q + 1 < wr.heap.size := by have := HC.out.2.2; have := hB.size; omega
    clear hB hI hbS y0 y1 hS c1 c2
    by_cases hk9 : (f k).k = (g k).k
    ·by_cases hl9 : (f k).l = (g k).l
     ·have hkx : ((f k).k != (g k).k) = false := by simpa using hk9
      have hlx : ((f k).l != (g k).l) = false := by simpa using hl9
      have HK9 := qH (And.intro hk9 hl9); clear hk9 hl9
      cases hs9 : sameB (f k).d (g k).d with
      | false =>
       rw [hs9] at hsb
       have HF : Hid (decide (ndL f n = ndL g n) = false) := qH (ndL_ne hlt fun e => by
        have e2 : (f k).d = (g k).d := congrArg Nd.d e; rw [e2] at hs9; rw [sameB_true rfl] at hs9
        cases hs9)
       clear hs9; go_wp2_with fail; rw [← hwS, ← hx]; clear hwS hx d0 d1 d2 d3 e0 e1 e2 e3; go_wp2_with fail; refine hsb.mono ?_; rintro e w5 ⟨rfl, qd, rfl⟩; clear hsb; go_wp2_with fail; go_ret
       exact ⟨by rw [HF.out]; rfl, below_drewN HBS.out _⟩
      | true =>
       rw [hs9] at hsb; go_wp2_with fail; rw [← hwS, ← hx]; clear hwS hx d0 d1 d2 d3 e0 e1 e2 e3; go_wp2_with fail; refine hsb.mono ?_; rintro e w5 ⟨rfl, qd, rfl⟩; have hse := sameE_any (f k).ea (g k).ea (f k).en (g k).en (f k).ec (g k).ec (f k).e (g k).e (wS.drewN qd) ((H.out.1.next (below_drewN HBS.out _)).ents k hlt).ens ((H.out.2.1.next (below_drewN HBS.out _)).ents k hlt).ens (by have := (H.out.2.2.1.2 k hlt).2; omega) (by have := (H.out.2.2.2.2 k hlt).2; omega); clear hsb
       cases hq9 : sameE (f k).e (g k).e with
       | false =>
        rw [hq9] at hse
        have HF : Hid (decide (ndL f n = ndL g n) = false) := qH (ndL_ne hlt fun e => by
         have e2 : (f k).e = (g k).e := congrArg Nd.e e; rw [e2] at hq9; rw [sameE, decide_eq_true rfl] at hq9
         cases hq9)
        clear hq9 hs9; go_wp2_with fail; refine hse.mono ?_; rintro e w6 ⟨rfl, hb6⟩; have HB6 := qH ((below_drewN HBS.out qd).trans (hb6.mono (below_drewN HBS.out qd).size)); clear hse hb6; go_wp2_with fail; go_ret
        exact ⟨by rw [HF.out]; rfl, HB6.out⟩
       | true =>
        rw [hq9] at hse
        have HEQ : Hid ((f k).nd = (g k).nd) := qH (by
         have e1 : (f k).d = (g k).d := of_decide_eq_true hs9; have e2 : (f k).e = (g k).e := of_decide_eq_true hq9; unfold Nc.nd
         rw [HK9.out.1, HK9.out.2, e1, e2])
        clear hq9 hs9; go_wp2_with fail; refine hse.mono ?_; rintro e w6 ⟨rfl, hb6⟩; have HB6 := qH ((below_drewN HBR.out qd).trans (hb6.mono (below_drewN HBR.out qd).size)); clear hse hb6; go_wp2_with fail
        go_roundw
        case rel => exact ⟨k + 1, by omega, by go_num, HB6.out, HI.out.succ HEQ.out⟩
        case measure => simp [RowKit.intOf]; omega
     ·have hkx : ((f k).k != (g k).k) = false := by simpa using hk9
      have hlx : ((f k).l != (g k).l) = true := by simpa using hl9
      have HF : Hid (decide (ndL f n = ndL g n) = false) := qH (ndL_ne hlt fun e => hl9 (congrArg Nd.l e)); clear hk9 hl9 hsb; go_wp2_with fail; rw [← hwS, ← hx]; clear hwS hx d0 d1 d2 d3 e0 e1 e2 e3; go_wp2_with fail; go_ret
      exact ⟨by rw [HF.out]; rfl, HBS.out⟩
    ·have hkx : ((f k).k != (g k).k) = true := by simpa using hk9
     have HF : Hid (decide (ndL f n = ndL g n) = false) := qH (ndL_ne hlt fun e => hk9 (congrArg Nd.k e)); clear hk9 hsb; go_wp2_with fail; rw [← hwS, ← hx]; clear hwS hx d0 d1 d2 d3 e0 e1 e2 e3; go_wp2_with fail; go_ret
     exact ⟨by rw [HF.out]; rfl, HBS.out⟩
   ·obtain rfl : k = n := by omega
    have HF := qH (ndL_eq hI); clear hB hI c1 c2; go_wp2_with fail; go_ret
    exact ⟨by rw [HF.out]; rfl, HB.out.trans (HB2.out.mono HB.out.size)⟩
 ·have HF : Hid (decide (ndL f n = ndL g m) = false) := qH (decide_eq_false fun e => hl (by have := congrArg List.length e; rwa [ndL_len, ndL_len] at this))
  have hne : ((n : Int) != (m : Int)) = true := by simpa using fun e => hl (by omega)
  have k2 : ¬ (n : Int) = (m : Int) := by omega
  clear h1 h2 w1 w2 hl
  go_enter Tryz.func22, Tryz.ntmps22
  go_wp2_with fail
  go_ret
  exact ⟨by rw [HF.out]; rfl, ((Below.refl _ _).alloc (Nat.le_refl _) _).alloc (by simp) _⟩
end
section
variable {w : World} {r s : Rv} {da ea : Option Addr} {dn dc en ec : Nat} {na ma : Option Addr} {nn nc mn mc : Nat} {Ls Ms : List (List UInt8)}
theorem sameResult_any (h1 : ResS w r da dn dc na nn nc Ls) (h2 : ResS w s ea en ec ma mn mc Ms) (w1 : dn ≤ 1000000000) (w2 : nn ≤ 1000000000) (w3 : mn ≤ 1000000000) :
  Calls Tryz.prog 21 #[resW r da dn dc na nn nc, resW s ea en ec ma mn mc] w fun e w' => e = .returned (.bool (decide (r = s))) ∧ Below w.heap.size w w' := by
 unfold resW
 obtain ⟨wa, ha⟩ : ∃ wa, wa = (w.alloc (.cells #[.int .i64 r.err, .slice da dn dc, .slice na nn nc, .int .i64 r.k, .int .i64 r.l, .int .i64 r.sz] 37 (0, 0))).alloc (.cells #[.int .i64 s.err, .slice ea en ec, .slice ma mn mc, .int .i64 s.k, .int .i64 s.l, .int .i64 s.sz] 37 (0, 0)) := ⟨_, rfl⟩
 obtain ⟨q, hq⟩ : ∃ q, q = w.heap.size := ⟨_, rfl⟩
 have hba : Below w.heap.size w wa := by rw [ha]; exact ((Below.refl _ _).alloc (Nat.le_refl _) _).alloc (by simp) _
 have sa : wa.heap.size = q + 1 + 1 := by rw [ha, hq]; simp
 have x0 : RsB wa q #[.int .i64 r.err, .slice da dn dc, .slice na nn nc, .int .i64 r.k, .int .i64 r.l, .int .i64 r.sz] := by
  rw [ha, hq]
  exact (Below.heap_alloc _ _ _ (by simp)).trans (heap_alloc_new w _)
 have x1 : RsB wa (q + 1) #[.int .i64 s.err, .slice ea en ec, .slice ma mn mc, .int .i64 s.k, .int .i64 s.l, .int .i64 s.sz] := by
  rw [ha, hq]
  have := heap_alloc_new (w.alloc (.cells #[.int .i64 r.err, .slice da dn dc, .slice na nn nc, .int .i64 r.k, .int .i64 r.l, .int .i64 r.sz] 37 (0, 0))) (.cells #[.int .i64 s.err, .slice ea en ec, .slice ma mn mc, .int .i64 s.k, .int .i64 s.l, .int .i64 s.sz] 37 (0, 0))
  have e : (w.alloc (.cells #[.int .i64 r.err, .slice da dn dc, .slice na nn nc, .int .i64 r.k, .int .i64 r.l, .int .i64 r.sz] 37 (0, 0))).heap.size = w.heap.size + 1 := by simp
  rw [e] at this
  exact this
 obtain ⟨p0, p1, p2, p3, p4, p5⟩ := x0.cells
 obtain ⟨r0, r1, r2, r3, r4, r5⟩ := x1.cells
 have hsb := same_any da ea dn dc en ec r.d s.d wa (h1.next hba).data.bys (h2.next hba).data.bys (by omega)
 have HB := qH hba
 have H := qH (And.intro h1 (And.intro h2 (And.intro w2 w3)))
 clear h1 h2 w1 w2 w3 hba sa x0 x1
 by_cases herr : r.err = s.err
 ·have berr : (r.err == s.err) = true := by simpa using herr
  have Eerr := qH herr
  clear herr
  by_cases hk : r.k = s.k
  ·have bk : (r.k == s.k) = true := by simpa using hk
   have Ek := qH hk; clear hk
   by_cases hl : r.l = s.l
   ·have bl : (r.l == s.l) = true := by simpa using hl
    have El := qH hl; clear hl
    by_cases hsz : r.sz = s.sz
    ·have bsz : (r.sz == s.sz) = true := by simpa using hsz
     have Esz := qH hsz; clear hsz
     cases hs9 : sameB r.d s.d with
     | false =>
      rw [hs9] at hsb; have HF : Hid (decide (r = s) = false) := qH (decide_eq_false fun e => by rw [e, sameB_true rfl] at hs9; cases hs9); clear hs9
      go_enter Tryz.func21, Tryz.ntmps21
      go_wp2_with fail; rw [← ha, ← hq]; clear ha hq; go_wp2_with fail; refine hsb.mono ?_; rintro e w5 ⟨rfl, qd, rfl⟩; clear hsb; go_wp2_with fail; go_ret
      exact ⟨by rw [HF.out]; rfl, below_drewN HB.out _⟩
     | true =>
      rw [hs9] at hsb; have ED : Hid (r.d = s.d) := qH (of_decide_eq_true hs9); clear hs9
      go_enter Tryz.func21, Tryz.ntmps21
      go_wp2_with fail; rw [← ha, ← hq]; clear ha hq; go_wp2_with fail; refine hsb.mono ?_; rintro e w5 ⟨rfl, qd, rfl⟩; have hst := sameT_any na ma nn mn nc mc Ls Ms (wa.drewN qd) (H.out.1.next (below_drewN HB.out qd)).names (H.out.2.1.next (below_drewN HB.out qd)).names (by have := H.out.2.2.1; omega) (by have := H.out.2.2.2; omega)
      have HQ : Hid (decide (r = s) = decide (Ls = Ms)) := qH (by
       refine decide_eq_decide.2 ⟨fun e => ?_, fun e => ?_⟩
       ·refine map_tx_inj ?_
        rw [H.out.1.nam, H.out.2.1.nam, e]
       ·have e7 : r.ns = s.ns := by rw [← H.out.1.nam, ← H.out.2.1.nam, e]
        cases r
        cases s
        simp only [Rv.mk.injEq]
        exact ⟨Eerr.out, ED.out, e7, Ek.out, El.out, Esz.out⟩)
      clear hsb; go_wp2_with fail; refine hst.mono ?_; rintro e w6 ⟨rfl, hb6⟩; have HB6 := qH ((below_drewN HB.out qd).trans (hb6.mono (below_drewN HB.out qd).size)); clear hst hb6; go_wp2_with fail; go_ret
      exact ⟨by rw [HQ.out]; rfl, HB6.out⟩
    ·have bsz : (r.sz == s.sz) = false := by simpa using hsz
     have HF : Hid (decide (r = s) = false) := qH (decide_eq_false fun e => hsz (congrArg Rv.sz e)); clear hsz hsb
     go_enter Tryz.func21, Tryz.ntmps21
     go_wp2_with fail; go_ret; refine ⟨by rw [HF.out]; rfl, ?_⟩; have := HB.out; rw [ha] at this
     exact this
   ·have bl : (r.l == s.l) = false := by simpa using hl
    have HF : Hid (decide (r = s) = false) := qH (decide_eq_false fun e => hl (congrArg Rv.l e)); clear hl hsb
    go_enter Tryz.func21, Tryz.ntmps21
    go_wp2_with fail; go_ret; refine ⟨by rw [HF.out]; rfl, ?_⟩; have := HB.out; rw [ha] at this
    exact this
  ·have bk : (r.k == s.k) = false := by simpa using hk
   have HF : Hid (decide (r = s) = false) := qH (decide_eq_false fun e => hk (congrArg Rv.k e)); clear hk hsb
   go_enter Tryz.func21, Tryz.ntmps21
   go_wp2_with fail; go_ret; refine ⟨by rw [HF.out]; rfl, ?_⟩; have := HB.out; rw [ha] at this
   exact this
 ·have berr : (r.err == s.err) = false := by simpa using herr
  have HF : Hid (decide (r = s) = false) := qH (decide_eq_false fun e => herr (congrArg Rv.err e))
  clear herr hsb
  go_enter Tryz.func21, Tryz.ntmps21
  go_wp2_with fail
  go_ret
  refine ⟨by rw [HF.out]; rfl, ?_⟩
  have := HB.out
  rw [ha] at this
  exact this
end
def weE (E : List En) : Nat := (E.map fun y => 1 + y.s.size).sum
def weN (x : Nd) : Nat := 1 + x.d.length + weE x.e
def weT (L : List Nd) : Nat := (L.map weN).sum
theorem weE_step {E : List En} {k : Nat} (h : k < E.length) : weE (E.take (k + 1)) = weE (E.take k) + (1 + (eat E k).s.size) := by
 have : E.take (k + 1) = E.take k ++ [eat E k] := by
  rw [List.take_add_one, List.getElem?_eq_getElem h]
  simp [eat, List.getD, h]
 rw [this]
 simp [weE]
theorem weT_step (f : Nat → Nc) (i : Nat) : weT (ndL f (i + 1)) = weT (ndL f i) + weN (f i).nd := by
 rw [ndL_succ]
 simp [weT]
theorem we_sum (u s : Nat) (hu : u ≤ 3000000000) (hs : s ≤ 1000000000) : wrap64 ((u : Int) + wrap64 (1 + (s : Int))) = ((u + (1 + s) : Nat) : Int) := by
 rw [IntWalk.wrap64_in (1 + (s : Int)) (by omega), IntWalk.wrap64_in _ (by omega)]
 omega
theorem we_le {u s mo : Nat} (hmo : mo ≤ 1000000) (hu : u ≤ mo) (hs : s ≤ 1000000000) : u + (1 + s) ≤ 3000000000 := by omega
section
variable {w : World} {n c : Nat} {a : Option Addr} {f : Nat → Nc}
theorem weigh_any (h : Nds w a n f) (mo : Nat) (hmo : mo ≤ 1000000) (hn : n ≤ 1000000000) (hs : ∀ i, i < n → (f i).dn ≤ 1000000000 ∧ (f i).en ≤ 1000000000 ∧ ∀ y ∈ (f i).e, y.s.size ≤ 1000000000) :
  Calls Tryz.prog 24 #[.agg #[.slice a n c], .int .i64 mo] w fun e w' => ∃ v : Nat, e = .returned (.int .i64 v) ∧ (v ≤ mo → weT (ndL f n) = v) ∧ Below w.heap.size w w' := by
 have H := qH (And.intro h hs)
 obtain ⟨wa, ha⟩ : ∃ wa, wa = w.alloc (.cells #[.slice a n c] 26 (0, 0)) := ⟨_, rfl⟩
 obtain ⟨q, hq⟩ : ∃ q, q = w.heap.size := ⟨_, rfl⟩
 have hba : Below w.heap.size w wa := by rw [ha]; exact (Below.refl _ _).alloc (Nat.le_refl _) _
 have c1 : wa.cell? ⟨q, 0, none⟩ = some (.slice a n c) := by rw [ha, hq]; simp
 have sa : wa.heap.size = q + 1 := by rw [ha, hq]; simp
 have HB := qH hba
 have C1 := qH c1
 have SA := qH sa
 clear h hs hba sa c1
 go_enter Tryz.func24, Tryz.ntmps24
 go_wp2_with fail
 rw [← ha, ← hq]
 clear ha hq
 go_loopw [5, 6] (fun v5 v6 wr => ∃ i v : Nat, i ≤ n ∧ v5 = .int .i64 v ∧ v6 = .int .i64 i ∧ wr = wa ∧ v ≤ 3000000000 ∧ (v ≤ mo → v = weT (ndL f i))) (fun _ v6 _ => n - (RowKit.intOf v6).toNat)
 case atStart => exact ⟨0, 0, Nat.zero_le _, rfl, rfl, rfl, by omega, fun _ => rfl⟩
 case round =>
  obtain ⟨i, v, hi, rfl, rfl, rfl, hv, hI⟩ := hrel
  have HI := qH hI
  have c1 := C1.out
  clear hI
  by_cases hlt : i < n
  ·by_cases hvm : v ≤ mo
   ·have k0 : (0 : Int) ≤ (i : Int) := by omega
    have k1 : (i : Int) < (n : Int) := by omega
    have k2 : (v : Int) ≤ (mo : Int) := by omega
    obtain ⟨b, off, rfl, hbl, d0, d1, d2, d3⟩ := (H.out.1.next HB.out).at hlt; have hen := ((H.out.1.next HB.out).ents i hlt).ens; have hdl := ((H.out.1.next HB.out).data i hlt).bys.len; obtain ⟨s1, s2, s3⟩ := H.out.2 i hlt; have HEN := qH hen; have HS := qH (And.intro hdl (And.intro s3 (HI.out hvm))); clear hen hdl s3 d0 d1 hbl; go_wp2_with fail
    go_loopw [5, 7] (fun v5 v7 w9 => ∃ k u : Nat, k ≤ (f i).en ∧ v5 = .int .i64 u ∧ v7 = .int .i64 k ∧ w9 = wr ∧ u ≤ 3000000000 ∧ (u ≤ mo → u = weT (ndL f i) + (1 + (f i).d.length) + weE ((f i).e.take k))) (fun _ v7 _ => (f i).en - (RowKit.intOf v7).toNat)
    case atStart =>
     refine ⟨0, v + (1 + (f i).dn), Nat.zero_le _, ?_, rfl, rfl, by omega, fun _ => ?_⟩
     ·go_num
     ·have h1 := HS.out.1
      have h2 := HS.out.2.2
      simp [weE]
      omega
    case round =>
     obtain ⟨k, u, hk, rfl, rfl, rfl, hu, hJ⟩ := hrel; have HJ := qH hJ; clear hJ
     by_cases hlk : k < (f i).en
     ·by_cases hum : u ≤ mo
      ·have j1 : (k : Int) < ((f i).en : Int) := by omega
       have j2 : (u : Int) ≤ (mo : Int) := by omega
       have j0 : (0 : Int) ≤ (k : Int) := by omega
       obtain ⟨b2, o2, he2, hl2, x1, x2⟩ := HEN.out.at (i := k) hlk; rw [he2] at d3; have hsz := HS.out.2.1 _ (eat_mem (L := (f i).e) (by rw [HEN.out.len]; exact hlk)); have HSZ := qH hsz; clear x2 hl2 hsz; go_wp2_with fail
       go_roundw
       have hsz := HSZ.out
       case rel =>
        refine ⟨k + 1, u + (1 + (eat (f i).e k).s.size), by clear hsz; omega, by rw [we_sum _ _ hu hsz], rfl, trivial, we_le hmo hum hsz, fun h => ?_⟩; have h9 := HJ.out hum; rw [weE_step (by rw [HEN.out.len]; exact hlk)]
        omega
       case measure => simp [RowKit.intOf]; omega
      ·have j1 : (k : Int) < ((f i).en : Int) := by omega
       have j2 : ¬ (u : Int) ≤ (mo : Int) := by omega
       go_wp2_with fail
       go_roundw
       case rel => exact ⟨i + 1, u, by omega, rfl, by go_num, trivial, hu, fun h => absurd h hum⟩
       case measure => simp [RowKit.intOf]; omega
     ·obtain rfl : k = (f i).en := by omega
      go_wp2_with fail
      go_roundw
      case rel =>
       refine ⟨i + 1, u, by omega, rfl, by go_num, trivial, hu, fun h => ?_⟩; have h9 := HJ.out h; rw [← HEN.out.len, List.take_length] at h9; rw [weT_step, h9]; unfold weN Nc.nd; simp only
       omega
      case measure => simp [RowKit.intOf]; omega
   ·have k2 : ¬ (v : Int) ≤ (mo : Int) := by omega
    have k1 : (i : Int) < (n : Int) := by omega
    go_wp2_with fail; go_ret
    exact ⟨v, rfl, fun h => absurd h hvm, HB.out⟩
  ·obtain rfl : i = n := by omega
   go_wp2_with fail; go_ret
   exact ⟨v, rfl, fun h => (HI.out h).symm, HB.out⟩
end
def LoPost (w : World) (p q : ByteArray) (dn : Nat) (e : Ending) (w' : World) : Prop := ∃ b, e = .returned (.bool b) ∧ (b = false → p.size ≤ 1000 ∧ q.size ≤ 1000 ∧ dn ≤ 3000) ∧ Below w.heap.size w w'
section
variable {w : World} {da : Option Addr} {dn dc : Nat}
theorem long_any (w : World) (o i m : Int) (p q : ByteArray) (da : Option Addr) (dn dc : Nat) (hp : p.size ≤ 9223372036854775807) (hq : q.size ≤ 9223372036854775807) (hd : dn ≤ 9223372036854775807) :
  Calls Tryz.prog 16 #[.agg #[.int .i64 o, .string p, .string q, .int .i64 i, .int .i64 m, .slice da dn dc]] w (LoPost w p q dn) := by
 by_cases p1 : 1000 < p.size
 ·have p2 : (1000 : Int) < (p.size : Int) := by omega
  clear p1
  go_enter Tryz.func16, Tryz.ntmps16
  go_wp2_with fail
  go_ret
  exact ⟨true, rfl, fun h => (by cases h), (Below.refl _ _).alloc (Nat.le_refl _) _⟩
 have p2 : ¬ (1000 : Int) < (p.size : Int) := by omega
 by_cases q1 : 1000 < q.size
 ·have q2 : (1000 : Int) < (q.size : Int) := by omega
  clear p1 q1
  go_enter Tryz.func16, Tryz.ntmps16
  go_wp2_with fail
  go_ret
  exact ⟨true, rfl, fun h => (by cases h), (Below.refl _ _).alloc (Nat.le_refl _) _⟩
 have q2 : ¬ (1000 : Int) < (q.size : Int) := by omega
 by_cases d1 : 3000 < dn
 ·have d2 : (3000 : Int) < (dn : Int) := by omega
  clear p1 q1 d1
  go_enter Tryz.func16, Tryz.ntmps16
  go_wp2_with fail
  go_ret
  exact ⟨true, rfl, fun h => (by cases h), (Below.refl _ _).alloc (Nat.le_refl _) _⟩
 have d2 : ¬ (3000 : Int) < (dn : Int) := by omega
 have HR : Hid (p.size ≤ 1000 ∧ q.size ≤ 1000 ∧ dn ≤ 3000) := qH (by omega)
 clear p1 q1 d1
 by_cases i1 : 3000 < i
 ·by_cases i2 : i ≤ 46368
  ·by_cases i3 : o = 8
   ·subst i3
    go_enter Tryz.func16, Tryz.ntmps16
    go_wp2_with fail; go_ret
    exact ⟨true, rfl, fun h => (by cases h), (Below.refl _ _).alloc (Nat.le_refl _) _⟩
   ·have i4 : (o == 8) = false := by simpa using i3
    clear i3
    by_cases m1 : 3000 < m
    ·by_cases m2 : m ≤ 46368
     ·by_cases m3 : o = 9
      ·subst m3
       go_enter Tryz.func16, Tryz.ntmps16
       go_wp2_with fail; go_ret
       exact ⟨true, rfl, fun h => (by cases h), (Below.refl _ _).alloc (Nat.le_refl _) _⟩
      ·have m4 : (o == 9) = false := by simpa using m3
       clear m3
       go_enter Tryz.func16, Tryz.ntmps16
       go_wp2_with fail; go_ret
       exact ⟨false, rfl, fun _ => HR.out, (Below.refl _ _).alloc (Nat.le_refl _) _⟩
     ·skip
      go_enter Tryz.func16, Tryz.ntmps16
      go_wp2_with fail; go_ret
      exact ⟨false, rfl, fun _ => HR.out, (Below.refl _ _).alloc (Nat.le_refl _) _⟩
    ·skip
     go_enter Tryz.func16, Tryz.ntmps16
     go_wp2_with fail; go_ret
     exact ⟨false, rfl, fun _ => HR.out, (Below.refl _ _).alloc (Nat.le_refl _) _⟩
  ·skip
   by_cases m1 : 3000 < m
   ·by_cases m2 : m ≤ 46368
    ·by_cases m3 : o = 9
     ·subst m3
      go_enter Tryz.func16, Tryz.ntmps16
      go_wp2_with fail; go_ret
      exact ⟨true, rfl, fun h => (by cases h), (Below.refl _ _).alloc (Nat.le_refl _) _⟩
     ·have m4 : (o == 9) = false := by simpa using m3
      clear m3
      go_enter Tryz.func16, Tryz.ntmps16
      go_wp2_with fail; go_ret
      exact ⟨false, rfl, fun _ => HR.out, (Below.refl _ _).alloc (Nat.le_refl _) _⟩
    ·skip
     go_enter Tryz.func16, Tryz.ntmps16
     go_wp2_with fail; go_ret
     exact ⟨false, rfl, fun _ => HR.out, (Below.refl _ _).alloc (Nat.le_refl _) _⟩
   ·skip
    go_enter Tryz.func16, Tryz.ntmps16
    go_wp2_with fail; go_ret
    exact ⟨false, rfl, fun _ => HR.out, (Below.refl _ _).alloc (Nat.le_refl _) _⟩
 ·skip
  by_cases m1 : 3000 < m
  ·by_cases m2 : m ≤ 46368
   ·by_cases m3 : o = 9
    ·subst m3
     go_enter Tryz.func16, Tryz.ntmps16
     go_wp2_with fail; go_ret
     exact ⟨true, rfl, fun h => (by cases h), (Below.refl _ _).alloc (Nat.le_refl _) _⟩
    ·have m4 : (o == 9) = false := by simpa using m3
     clear m3
     go_enter Tryz.func16, Tryz.ntmps16
     go_wp2_with fail; go_ret
     exact ⟨false, rfl, fun _ => HR.out, (Below.refl _ _).alloc (Nat.le_refl _) _⟩
   ·skip
    go_enter Tryz.func16, Tryz.ntmps16
    go_wp2_with fail; go_ret
    exact ⟨false, rfl, fun _ => HR.out, (Below.refl _ _).alloc (Nat.le_refl _) _⟩
  ·skip
   go_enter Tryz.func16, Tryz.ntmps16
   go_wp2_with fail; go_ret
   exact ⟨false, rfl, fun _ => HR.out, (Below.refl _ _).alloc (Nat.le_refl _) _⟩
end
structure Tv (w : World) (L : List Nd) (a : Option Addr) (c : Nat) : Prop where
 tre : TreV w L (.agg #[.slice a L.length c])
 rgt : Rgt L
theorem TreV.next {w w' : World} {L : List Nd} {v : Value} (h : TreV w L v) (hb : Below w.heap.size w w') : TreV w' L v := by
 obtain ⟨a, c, f, hv, hn, h3⟩ := h
 exact ⟨a, c, f, hv, hn.next hb, h3⟩
theorem Tv.next {w w' : World} {L : List Nd} {a : Option Addr} {c : Nat} (h : Tv w L a c) (hb : Below w.heap.size w w') : Tv w' L a c := ⟨h.tre.next hb, h.rgt⟩
theorem Tv.turnT {w w' : World} {L : List Nd} {a : Option Addr} {c b : Nat} (h : Tv w L a c) {x : Option Addr} {m k : Nat} (hb : TrB w b (.slice x m k)) (ht : Turn (· = b) w w') : Tv w' L a c := by
 obtain ⟨⟨a', c', f, hv, hn, h3⟩, hr⟩ := h
 exact ⟨⟨a', c', f, hv, hn.turnT hb ht, h3⟩, hr⟩
theorem Tv.nds {w : World} {L : List Nd} {a : Option Addr} {c : Nat} (h : Tv w L a c) : ∃ f, Nds w a L.length f ∧ ndL f L.length = L ∧ Few L.length f ∧ (∀ i, i < L.length → (f i).e.length ≤ 64 ∧ (f i).d.length ≤ 46368 ∧ (∀ y ∈ (f i).e, y.s.size ≤ 12)) := by
 obtain ⟨⟨a', c', f, hv, hn, hL, _, _⟩, hr⟩ := h
 simp only [Value.agg.injEq, Array.mk.injEq, List.cons.injEq, Value.slice.injEq, and_true] at hv
 obtain ⟨rfl, -, rfl⟩ := hv
 have hr' : Rgt (ndL f L.length) := by rw [hL]; exact hr
 have key : ∀ i, i < L.length → (f i).e.length ≤ 64 ∧ (f i).d.length ≤ 46368 ∧ (∀ y ∈ (f i).e, y.s.size ≤ 12) := fun i hi => by
  refine ⟨(hr'.ents hi).1, ?_, fun y hy => ?_⟩
  ·rcases hr'.at hi with ⟨h7, _⟩ | h7
   ·exact h7.2.2
   ·have h8 : (f i).d = [] := h7.2.1
    rw [h8]
    decide
  ·have := ((hr'.ents hi).2 y hy).2.2
   unfold nmB at this; rw [Lib.size_eq]; simp only [Bool.and_eq_true, decide_eq_true_eq] at this
   omega
 refine ⟨f, hn, hL, ⟨by have := hr.few; omega, fun i hi => ?_⟩, key⟩
 have h1 := (hn.data i hi).bys.len
 have h2 := (hn.ents i hi).ens.len
 have := key i hi
 omega
def DoV (w : World) (r : List Nd × Rv) (e : Ending) (w' : World) : Prop :=
 ∃ a c da dn dc na nn nc Ls, e = .returned (.tuple #[.agg #[.slice a r.1.length c], resW r.2 da dn dc na nn nc]) ∧ Tv w' r.1 a c ∧ ResS w' r.2 da dn dc na nn nc Ls ∧ Below w.heap.size w w'
section
variable {w : World} {L M : List Nd} {a b : Option Addr} {c d : Nat}
theorem doT (h : Tv w L a c) (o i m : Int) (p s : ByteArray) (da : Option Addr) (dn dc : Nat) (zs : List Int) (hp : p.size ≤ 1000000) (hq : s.size ≤ 1000000)
  (hi : -9223372036854775808 ≤ i ∧ i ≤ 9223372036854775807) (hm : -9223372036854775808 ≤ m ∧ m ≤ 9223372036854775807) (hz : Pin w da dn dc zs) :
  Calls Tryz.prog 19 #[.agg #[.slice a L.length c], .agg #[.int .i64 o, .string p, .string s, .int .i64 i, .int .i64 m, .slice da dn dc]] w (DoV w (doO L o (nms p) (nms s) i m zs)) := by
 obtain ⟨f, hn, hL, hf, _⟩ := h.nds
 have := do_any (c := c) hn hf.1 (fun i hi => (hf.2 i hi).2) o i m p s da dn dc zs (by omega) (by omega) hi hm hz
 rw [hL, dO, rightB_iff.2 h.rgt] at this
 refine this.mono ?_
 rintro e w' ⟨v1, v2, rfl, h1, ⟨da2, dn2, dc2, na2, nn2, nc2, Ls, rfl, hS⟩, hb⟩
 have h1' := h1
 obtain ⟨a', c', f', rfl, _⟩ := h1'
 exact ⟨a', c', da2, dn2, dc2, na2, nn2, nc2, Ls, rfl, ⟨h1, do_right h.rgt o (nms_ok p) (nms_ok s) i m zs⟩, hS, hb⟩
theorem findT (h : Tv w L a c) (p : ByteArray) (hp : p.size ≤ 1000000) :
  Calls Tryz.prog 25 #[.agg #[.slice a L.length c], .string p] w fun e w' => e = .returned (.tuple #[.int .i64 (fiO L (nms p)).1, .int .i64 (fiO L (nms p)).2]) ∧ Below w.heap.size w w' := by
 obtain ⟨f, hn, hL, hf, _⟩ := h.nds
 have := tfind_any (c := c) hn hf.1 (fun i hi => (hf.2 i hi).2) p (by omega)
 rwa [hL] at this
theorem rightT (h : Tv w L a c) : Calls Tryz.prog 27 #[.agg #[.slice a L.length c]] w fun e w' => e = .returned (.bool true) ∧ Below w.heap.size w w' := by
 obtain ⟨f, hn, hL, hf, _⟩ := h.nds
 have := right_any (c := c) hn hf.1 (fun i hi => (hf.2 i hi).2)
 rwa [hL, rightB_iff.2 h.rgt] at this
theorem sameT2 (h : Tv w L a c) (k : Tv w M b d) : Calls Tryz.prog 22 #[.agg #[.slice a L.length c], .agg #[.slice b M.length d]] w fun e w' => e = .returned (.bool (decide (L = M))) ∧ Below w.heap.size w w' := by
 obtain ⟨f, hn, hL, hf, _⟩ := h.nds
 obtain ⟨g, hm, hM, hg, _⟩ := k.nds
 have := sameTree_any (c := c) (d := d) hn hm hf hg
 rwa [hL, hM] at this
theorem weighT (h : Tv w L a c) (mo : Nat) (hmo : mo ≤ 1000000) : Calls Tryz.prog 24 #[.agg #[.slice a L.length c], .int .i64 mo] w fun e w' => ∃ v : Nat, e = .returned (.int .i64 v) ∧ Below w.heap.size w w' := by
 obtain ⟨f, hn, hL, hf, hk⟩ := h.nds
 refine (weigh_any (c := c) hn mo hmo (by have := hf.1; omega) (fun i hi => ⟨by have := (hf.2 i hi).1; omega, by have := (hf.2 i hi).2; omega, fun y hy => Nat.le_trans ((hk i hi).2.2 y hy) (by decide)⟩)).mono ?_
 rintro e w' ⟨v, rfl, _, hb⟩
 exact ⟨v, rfl, hb⟩
theorem newT (w : World) : Calls Tryz.prog 14 #[] w fun e w' => ∃ a c, e = .returned (.agg #[.slice a newL.length c]) ∧ Tv w' newL a c ∧ Below w.heap.size w w' := by
 refine (new_any w).mono ?_
 rintro e w' ⟨⟨v, rfl, hT⟩, hb⟩
 have h1 := hT
 obtain ⟨a', c', f', rfl, _⟩ := h1
 exact ⟨a', c', rfl, ⟨hT, new_right⟩, hb⟩
end
structure TvB (w : World) (x : Nat) (L : List Nd) (a : Option Addr) (c : Nat) : Prop where
 var : TrB w x (.slice a L.length c)
 tv : Tv w L a c
theorem TvB.next {w w' : World} {x : Nat} {L : List Nd} {a : Option Addr} {c : Nat} (h : TvB w x L a c) (hb : Below w.heap.size w w') : TvB w' x L a c := ⟨(hb.block _ (lt_of_block h.var)).trans h.var, h.tv.next hb⟩
structure RvB (w : World) (x : Nat) (r : Rv) (da : Option Addr) (dn dc : Nat) (na : Option Addr) (nn nc : Nat) (Ls : List (List UInt8)) : Prop where
 var : RsB w x #[.int .i64 r.err, .slice da dn dc, .slice na nn nc, .int .i64 r.k, .int .i64 r.l, .int .i64 r.sz]
 res : ResS w r da dn dc na nn nc Ls
theorem RvB.next {w w' : World} {x : Nat} {r : Rv} {da : Option Addr} {dn dc : Nat} {na : Option Addr} {nn nc : Nat} {Ls : List (List UInt8)} (h : RvB w x r da dn dc na nn nc Ls) (hb : Below w.heap.size w w') : RvB w' x r da dn dc na nn nc Ls := ⟨(hb.block _ h.var.lt).trans h.var, h.res.next hb⟩
section
variable {w : World} {L : List Nd} {a : Option Addr} {c : Nat} {r : Rv} {da : Option Addr} {dn dc : Nat} {na : Option Addr} {nn nc : Nat} {Ls : List (List UInt8)}
theorem new_tr (h : Tv w L a c) : ∃ wS x, wS = w.alloc (.cells #[.slice a L.length c] 26 (0, 0)) ∧ x = w.heap.size ∧ TvB wS x L a c ∧ Below w.heap.size w wS := by
 have hb : Below w.heap.size w (w.alloc (.cells #[.slice a L.length c] 26 (0, 0))) := (Below.refl _ _).alloc (Nat.le_refl _) _
 exact ⟨_, _, rfl, rfl, ⟨heap_alloc_new w _, h.next hb⟩, hb⟩
theorem new_rs (h : ResS w r da dn dc na nn nc Ls) : ∃ wS x, wS = w.alloc (.cells #[.int .i64 r.err, .slice da dn dc, .slice na nn nc, .int .i64 r.k, .int .i64 r.l, .int .i64 r.sz] 37 (0, 0)) ∧ x = w.heap.size ∧ RvB wS x r da dn dc na nn nc Ls ∧ Below w.heap.size w wS := by
 have hb : Below w.heap.size w (w.alloc (.cells #[.int .i64 r.err, .slice da dn dc, .slice na nn nc, .int .i64 r.k, .int .i64 r.l, .int .i64 r.sz] 37 (0, 0))) := (Below.refl _ _).alloc (Nat.le_refl _) _
 exact ⟨_, _, rfl, rfl, ⟨heap_alloc_new w _, h.next hb⟩, hb⟩
theorem new_tr_rs (h : Tv w L a c) (k : ResS w r da dn dc na nn nc Ls) : ∃ wS x y, wS = (w.alloc (.cells #[.slice a L.length c] 26 (0, 0))).alloc (.cells #[.int .i64 r.err, .slice da dn dc, .slice na nn nc, .int .i64 r.k, .int .i64 r.l, .int .i64 r.sz] 37 (0, 0)) ∧ x = w.heap.size ∧ y = w.heap.size + 1 ∧ TvB wS x L a c ∧ RvB wS y r da dn dc na nn nc Ls ∧ Below w.heap.size w wS := by
 obtain ⟨w1, x, h1, hx, ht, hb⟩ := new_tr h
 obtain ⟨w2, y, h2, hy, hr, hb2⟩ := new_rs (k.next hb)
 refine ⟨w2, x, y, by rw [h2, h1], hx, by rw [hy, h1]; simp, ht.next hb2, hr, hb.trans (hb2.mono hb.size)⟩
theorem set_tr {M : List Nd} {b : Option Addr} {d x : Nat} (h : TvB w x M b d) (k : Tv w L a c) : ∃ wS, wS = w.setCell ⟨x, 0, none⟩ (.slice a L.length c) ∧ TvB wS x L a c ∧ Turn (· = x) w wS := by
 have hT : Turn (· = x) w (w.setCell ⟨x, 0, none⟩ (.slice a L.length c)) := (Turn.refl (· = x) w).setO (p := ⟨x, 0, none⟩) rfl _
 exact ⟨_, rfl, ⟨h.var.set _, k.turnT h.var hT⟩, hT⟩
theorem RvB.turnT {M : List Nd} {b : Option Addr} {d x y : Nat} {w' : World} (h : RvB w y r da dn dc na nn nc Ls) (k : TvB w x M b d) (hT : Turn (· = x) w w') : RvB w' y r da dn dc na nn nc Ls :=
 ⟨(hT.block y h.var.lt (ne_ty h.var k.var (by decide))).trans h.var, h.res.turnK k.var.odd hT⟩
theorem TvB.turnT {M N : List Nd} {b a2 : Option Addr} {d x y c2 : Nat} {w' : World} (h : TvB w y N a2 c2) (k : TvB w x M b d) (hne : y ≠ x) (hT : Turn (· = x) w w') : TvB w' y N a2 c2 :=
 ⟨(hT.block y (lt_of_block h.var) hne).trans h.var, h.tv.turnT k.var hT⟩
theorem set_tr_rs {M : List Nd} {b : Option Addr} {d x : Nat} (h : TvB w x M b d) (k : Tv w L a c) (s : ResS w r da dn dc na nn nc Ls) : ∃ wS y, wS = (w.setCell ⟨x, 0, none⟩ (.slice a L.length c)).alloc (.cells #[.int .i64 r.err, .slice da dn dc, .slice na nn nc, .int .i64 r.k, .int .i64 r.l, .int .i64 r.sz] 37 (0, 0)) ∧ y = w.heap.size ∧
  TvB wS x L a c ∧ RvB wS y r da dn dc na nn nc Ls ∧ Turn (· = x) w wS := by
 obtain ⟨w1, h1, hV, hT⟩ := set_tr h k
 have s1 : ResS w1 r da dn dc na nn nc Ls := s.turnK h.var.odd hT
 obtain ⟨w2, y, h2, hy, hR, hb⟩ := new_rs s1
 refine ⟨w2, y, by rw [h2, h1], ?_, hV.next hb, hR, hT.next hb⟩
 rw [hy, h1]
 simp [World.setCell]
theorem turn_below {w0 w w' : World} {x : Nat} (h : Below w0.heap.size w0 w) (hx : w0.heap.size ≤ x) (hT : Turn (· = x) w w') : Below w0.heap.size w0 w' := h.trans (hT.below h.size fun k e => by omega)
end
end Go.Proofs.YtinholnidchblaaGreatDoor
