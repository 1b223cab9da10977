/-
  Records held against each other.
-/
import Derived.Test.YtegcjpocdfmpfaaUae
import Derived.ChangeKeysEq
import Derived.Laws.StructEq
import Derived.Test.YtegcjpocdfmpfaaUah
import Derived.Test.YtegcjpocdfmpfaaUad
import Derived.Laws.AppendOwnNone
import Derived.Test.YtegcjpocdfmpfaaUag
import Derived.Shelf.Abstract
import Derived.Maps.AppendAt
import Derived.Laws.OwnMore
set_option linter.unusedVariables false
set_option linter.unusedSimpArgs false
set_option maxRecDepth 100000
set_option maxHeartbeats 16000000
namespace Go.Proofs.Ytegcjpocdfmpfaa
open Go.RowKit

theorem plainInt : Try.prog.plainKey 3 = true := by kernel_rfl
theorem intInfo : ∃ i, Try.prog.info? 3 = some i := by
  obtain ⟨i0, hi, _⟩ := info_parts info3
  exact ⟨i0, hi⟩
theorem run_items (d : Nat) (xs ys : Array Value) (F G : Nat → Int) (w : World) : ∀ (is : List Nat), (∀ i ∈ is, xs[i * 1]? = some (.int .i64 (F i)) ∧ ys[i * 1]? = some (.int .i64 (G i))) →
    (Op.eqItems (d + 1) 3 1 xs ys is).run Try.prog w = .ok (is.all fun i => F i == G i) w
  | [], _ => rfl
  | i :: is, h => by
    obtain ⟨h1, h2⟩ := h i List.mem_cons_self
    have ih := run_items d xs ys F G w is (fun j hj => h j (List.mem_cons_of_mem _ hj))
    simp only [Op.eqItems, Sem.run_bind, run_part_plain w plainInt h1, run_part_plain w plainInt h2, run_equalIn_int w d 3 .i64 .i64 (F i) (G i) Try.underlying3, Result.andThen_ok, List.all_cons]
    cases hb : (F i == G i)
    · simp
    · simpa using ih

/-- 'append' of a slice of numbers onto a new empty slice. -/
theorem wpList_apx {w : World} {ops : Array Oper} {rest : List Oper} {o : Oper} {a : Act} {Q : Exit → Act → World → Prop} (hgd : o.guard = none) (s x : Operand)
    (ho : o.op = .call { callee := .builtin .append, args := #[s, x], argTypes := #[25, 25] })
    (g1 : Nat) (ad : Option Addr) (l c : Nat) (ks : List Int) (hs : a.eval s = .slice (some ⟨g1, 0, none⟩) 0 0) (hx : a.eval x = .slice ad l c) (h1 : w.heap[g1]? = some (.cells #[] 3 (0, 0))) (hy : Ins w ad l ks) (hnil : ad = none → l = 0 ∧ c = 0) (hl : l ≤ 1000000000000) (B : Nat) (hB : B ≤ g1) (w0 : World) (hb : Below B w0 w)
    (h : ∀ a' c' w', Ins w' a' l ks → (a' = none → l = 0 ∧ c' = 0) → (∀ x, a' = some x → B ≤ x.block ∧ x.block < w'.heap.size) → Below B w0 w' → wpList Try.prog ops Q rest (a.put o.dst (.slice a' l c')) w') : wpList Try.prog ops Q (o :: rest) a w := by
  obtain ⟨i0, hi, hz0, hz1, hz2⟩ := info_parts info3
  have hlt := lt_of_block h1
  have hown : w.ownsRow B 3 1 (.slice (some ⟨g1, 0, none⟩) 0 0) 0 [] := ⟨rfl, .inr ⟨g1, 0, #[], rfl, hB, h1, Nat.le_refl _, Nat.zero_le _, rfl, rfl⟩⟩
  obtain ⟨hlen, hp⟩ := hy
  cases ad with
  | none =>
    obtain ⟨rfl, rfl⟩ := hnil rfl
    exact wpList_append_own_none hgd s x 25 ho B 3 i0 1 Try.underlying25 hi _ 0 _ hs hown hx (h _ _ w ⟨hlen, .inl rfl⟩ (fun e => by cases e) (fun x e => by cases e; exact ⟨hB, hlt⟩) hb)
  | some p =>
    refine wpList_append_own w hgd s x 25 ho B 3 i0 (.int .i64 0) 1 8 Try.underlying25 hi hz0 hz1 hz2 rfl (by decide) (.slice (some ⟨g1, 0, none⟩) 0 0) 0 [] hs hown p l c (ks.map (Value.int .i64)) hx (by simp [hlen]) ?_ ?_ (by unfold maxLen; omega) (by omega) (by omega) ?_
    · intro j u hj
      have hjl : j < l := by
        rcases Nat.lt_or_ge j l with h | h
        · exact h
        · rw [List.getElem?_eq_none (by simp [hlen]; omega)] at hj; cases hj
      have hv : u = .int .i64 (num ks j) := by
        rw [List.getElem?_map] at hj
        have hjx : j < ks.length := by rw [hlen]; exact hjl
        simp [List.getElem?_eq_getElem hjx] at hj
        simp [num, List.getD, hjx, hj]
      rcases hp with h0 | ⟨b, off, hp, _, hcell⟩
      · omega
      · cases hp
        rw [hv, show (⟨b, off, none⟩ : Addr).add j = ⟨b, off + j, none⟩ by unfold Addr.add; split <;> simp_all]
        exact hcell j hjl
    · intro u hu
      obtain ⟨z, _, rfl⟩ := List.mem_map.1 hu
      rfl
    · intro v' w' hown' hgrow _
      have hb' := hb.grown hgrow (by omega) fun k hk => by cases hk; exact hB
      rw [Nat.zero_add] at hown'
      have ho : OwnI w' B v' l ks := by
        have := hown'
        rw [List.nil_append] at this
        exact this
      have hnn := ho
      obtain ⟨a', c', rfl, hi, _, _, hlo⟩ := ho.ins
      refine h a' c' w' hi (fun e => ?_) (fun x hx => hlo x hx) hb'
      subst e
      rcases hnn.2 with ⟨e1, h0⟩ | ⟨g, cap, cur, e1, _⟩
      · cases e1; exact ⟨rfl, rfl⟩
      · cases e1
def SmI (w0 : World) (n : Nat) (v : Value) (w : World) : Prop := ∃ k : Nat, k ≤ n ∧ v = .int .i64 k ∧ ∃ q, w = w0.drewN q
theorem sameInts_yes (a b : Option Addr) (n c d : Nat) (ks : List Int) (w : World) (h1 : Ins w a n ks) (h2 : Ins w b n ks) (hn : n ≤ 1000000000000) :
    Calls Try.prog 23 #[.slice a n c, .slice b n d] w fun e w' => e = .returned (.bool true) ∧ Below w.heap.size w w' := by
  go_enter Try.func23, Try.ntmps23
  go_wp2_with (fail)
  go_loopw [5] (fun v wr => SmI w n v wr) (fun v _ => n - (RowKit.intOf v).toNat)
  case atStart => exact ⟨0, by omega, rfl, 0, rfl⟩
  case round =>
    obtain ⟨k, hk, rfl, q, hq⟩ := hrel
    have hB : Below w.heap.size w wr := by rw [hq]; exact below_drewN (Below.refl _ _) q
    have HQ := Lib.hid hq
    clear hq
    by_cases hlt : k < n
    · rcases h1.2 with h0 | ⟨g1, o1, rfl, l1, c1⟩
      · omega
      rcases h2.2 with h0 | ⟨g2, o2, rfl, l2, c2⟩
      · omega
      have k0 : (0 : Int) ≤ (k : Int) := by omega
      have k1 : (k : Int) < (n : Int) := by omega
      have x1 := (hB.cell (p := ⟨g1, o1 + k, none⟩) l1).trans (c1 k hlt)
      have x2 := (hB.cell (p := ⟨g2, o2 + k, none⟩) l2).trans (c2 k hlt)
      clear h1 h2 c1 c2
      go_wp2_with (fail)
      go_quiet (fail)
      go_wp2_with (fail)
      go_roundw
      case rel => exact ⟨k + 1, by omega, by go_num, q + nq, by rw [HQ.out, World.drewN_drewN]⟩
      case measure => simp [RowKit.intOf]; omega
    · obtain rfl : k = n := by omega
      clear h1 h2
      go_wp2_with (fail)
      go_ret
      exact ⟨rfl, hB⟩

/-- How many addresses a geometry has; none, if it isn't right. -/
def adO (d r s : Int) : Int := if geoO d r s = true then adN d r s else 0
theorem adO_yes {d r s : Int} (h : Rt d r s) : adO d r s = adN d r s := by rw [adO, if_pos (geoO_iff.2 h)]
theorem adO_no {d r s : Int} (h : ¬ Rt d r s) : adO d r s = 0 := by rw [adO, geoO_no h]; rfl
theorem isA_zero (a : Int) : isA 0 a = false := by rw [isA]; exact decide_eq_false (by omega)
theorem adO_le (d r s : Int) : adO d r s ≤ 3776 := by
  by_cases h : Rt d r s
  · rw [adO_yes h]; exact (adN_bd h).2
  · rw [adO_no h]; omega
theorem pwhere_any (d r s n : Int) (w : World) :
    Calls Try.prog 82 #[gv d r s, .int .i64 n] w fun e w' => ∃ x y, e = .returned (.tuple #[.int .i64 x, .int .i64 y, .bool (isA (adO d r s) n)]) ∧ Below w.heap.size w w' := by
  by_cases h : Rt d r s
  · rw [adO_yes h]
    by_cases h1 : 1 ≤ n
    · by_cases h2 : n ≤ adN d r s
      · rw [isA_iff.2 ⟨h1, h2⟩]
        exact (where_yes d r s n w h h1 h2).mono fun e w' ⟨he, hb⟩ => ⟨_, _, he, hb⟩
      · rw [show isA (adN d r s) n = false from decide_eq_false (by omega)]
        exact (where_high d r s n w h (by unfold adN at h2; omega)).mono fun e w' ⟨he, hb⟩ => ⟨_, _, he, hb⟩
    · rw [show isA (adN d r s) n = false from decide_eq_false (by omega)]
      exact (where_low d r s n w h (by omega)).mono fun e w' ⟨he, hb⟩ => ⟨_, _, he, hb⟩
  · rw [adO_no h, isA_zero]
    exact (where_out d r s n w h).mono fun e w' ⟨he, hb⟩ => ⟨_, _, he, hb⟩
theorem paddr_any (d r s a : Int) (w : World) :
    Calls Try.prog 47 #[gv d r s, .int .i64 a] w fun e w' => e = .returned (.bool (isA (adO d r s) a)) ∧ Below w.heap.size w w' := by
  have hB : Below w.heap.size w (w.alloc (.cells #[.int .i64 d, .int .i64 r, .int .i64 s] 23 (0, 0))) := (Below.refl _ _).alloc (Nat.le_refl _) _
  have HB := Lib.hid hB
  clear hB
  obtain ⟨t, ht⟩ : ∃ t, t = isA (adO d r s) a := ⟨_, rfl⟩
  have hw := fun w => pwhere_any d r s a w
  rw [← ht] at hw ⊢
  clear ht
  go_enter Try.func47, Try.ntmps47
  go_wp2_with (fail)
  refine (hw _).mono ?_
  rintro e w2 ⟨x, y, rfl, hb⟩
  have HB2 := Lib.hid (HB.out.trans (hb.mono HB.out.size))
  clear hb hw
  go_wp2_with (fail)
  go_ret
  exact ⟨rfl, HB2.out⟩
theorem pSome_any (a : Int) (w : World) : Calls Try.prog 102 #[.int .i64 a] w fun e w' => e = .returned (.bool (a != 0)) ∧ w = w' := by
  go_enter Try.func102, Try.ntmps102
  go_wp2
  go_ret
  exact ⟨rfl, rfl⟩
/-- What a closure answers: p, wherever all that lay in w0 lies still; it makes memory at most. -/
def GivesI (g : FuncId) (lb : Array Value) (p : Int → Bool) (w0 : World) : Prop :=
  ∀ (x : Int) (w : World), Below w0.heap.size w0 w → Calls Try.prog g (#[.int .i64 x] ++ lb) w fun e w' => e = .returned (.bool (p x)) ∧ Below w.heap.size w w'
theorem gives_some (w : World) : GivesI 102 #[] (fun a => a != 0) w := fun x w1 _ => by
  refine (pSome_any x w1).mono ?_
  rintro e w' ⟨rfl, rfl⟩
  exact ⟨rfl, Below.refl _ _⟩
/-- A geometry's box. -/
theorem gives_no (d r s : Int) (g : Nat) (w : World) (hx : Bx w g d r s) : GivesI 46 #[.pointer (some ⟨g, 0, none⟩)] (fun a => !isA (adO d r s) a) w := fun x w1 hb => by
  have h := hx.next hb
  have y1 := h.c0
  have y2 := h.c1
  have y3 := h.c2
  have hA := paddr_any d r s x w1
  obtain ⟨t, ht⟩ : ∃ t, t = isA (adO d r s) x := ⟨_, rfl⟩
  rw [← ht] at hA
  show Calls Try.prog 46 #[.int .i64 x, .pointer (some ⟨g, 0, none⟩)] w1 fun e w' => e = .returned (.bool (!isA (adO d r s) x)) ∧ Below w1.heap.size w1 w'
  rw [← ht]
  clear h hx hb ht
  go_enter Try.func46, Try.ntmps46
  go_wp2_with (fail)
  refine hA.mono ?_
  rintro e w2 ⟨rfl, hb⟩
  have HB := Lib.hid hb
  clear hb hA
  go_wp2_with (fail)
  go_ret
  exact ⟨rfl, HB.out⟩
theorem gives_node (d r s : Int) (g : Nat) (w : World) (hx : Bx w g d r s) : GivesI 98 #[.pointer (some ⟨g, 0, none⟩)] (fun a => a != 0 && !isA (adO d r s) a) w := fun x w1 hb => by
  have h := hx.next hb
  have y1 := h.c0
  have y2 := h.c1
  have y3 := h.c2
  have hA := paddr_any d r s x w1
  obtain ⟨t, ht⟩ : ∃ t, t = isA (adO d r s) x := ⟨_, rfl⟩
  rw [← ht] at hA
  show Calls Try.prog 98 #[.int .i64 x, .pointer (some ⟨g, 0, none⟩)] w1 fun e w' => e = .returned (.bool (x != 0 && !isA (adO d r s) x)) ∧ Below w1.heap.size w1 w'
  rw [← ht]
  clear h hx hb ht
  by_cases e0 : x = 0
  · subst e0
    go_enter Try.func98, Try.ntmps98
    go_wp2_with (fail)
    go_ret
    exact ⟨rfl, Below.refl _ _⟩
  · have d0 : (x != 0) = true := by simp [e0]
    rw [d0]
    clear e0
    go_enter Try.func98, Try.ntmps98
    go_wp2_with (fail)
    refine hA.mono ?_
    rintro e w2 ⟨rfl, hb⟩
    have HB := Lib.hid hb
    clear hb hA
    go_wp2_with (fail)
    go_ret
    exact ⟨rfl, HB.out⟩
/-- The first k numbers don't meet p. -/
def NoTo (p : Int → Bool) (L : List Int) (k : Nat) : Prop := ∀ j, j < k → p (num L j) = false
theorem NoTo.zero (p : Int → Bool) (L : List Int) : NoTo p L 0 := fun j h => by omega
theorem NoTo.succ {p : Int → Bool} {L : List Int} {k : Nat} (h : NoTo p L k) (e : p (num L k) = false) : NoTo p L (k + 1) := fun j hj => by
  by_cases hk : j = k
  · rw [hk]; exact e
  · exact h j (by omega)
def IxO (p : Int → Bool) (L : List Int) (r : Int) : Prop := (r = -1 ∧ NoTo p L L.length) ∨ ∃ k : Nat, k < L.length ∧ r = (k : Int) ∧ p (num L k) = true
theorem indexI_any (g : FuncId) (lb : Array Value) (eg : ∀ args w, (callFunc g args).run Try.prog w = .ok (.enter g args) w) (p : Int → Bool) (w : World) (hg : GivesI g lb p w) (a : Option Addr) (n c : Nat) (L : List Int) (h : Ins w a n L) (hn : n ≤ 1000000000000) :
    Calls Try.prog 83 #[.slice a n c, .func (.func g) #[] lb] w fun e w' => ∃ r : Int, e = .returned (.int .i64 r) ∧ IxO p L r ∧ Below w.heap.size w w' := by
  have HLen := Lib.hid h.len
  go_enter Try.func83, Try.ntmps83
  go_wp2_with (fail)
  go_loopw [5, 8] (fun _ v wr => ∃ k : Nat, k ≤ n ∧ v = .int .i64 k ∧ Below w.heap.size w wr ∧ NoTo p L k) (fun _ v _ => n - (RowKit.intOf v).toNat)
  case atStart => exact ⟨0, by omega, rfl, Below.refl _ _, NoTo.zero _ _⟩
  case round =>
    obtain ⟨k, hk, rfl, hB, hI⟩ := hrel
    have HI := Lib.hid hI
    have HB := Lib.hid hB
    by_cases hlt : k < n
    · have k1 : (k : Int) < (n : Int) := by omega
      have k0 : (0 : Int) ≤ (k : Int) := by omega
      obtain ⟨b, off, rfl, hbl, hc⟩ := h.at (by omega)
      obtain ⟨z, hz⟩ : ∃ z, z = num L k := ⟨_, rfl⟩
      have x1 := (hB.cell (p := ⟨b, off + k, none⟩) hbl).trans (hc k hlt)
      have hcall := hg (num L k) wr hB
      have HIS := Lib.hid (fun e => hI.succ (k := k) e)
      rw [← hz] at x1 hcall HIS
      have HZ := Lib.hid hz
      clear hc h hB hI hg hz
      cases hb : p z with
      | false =>
        rw [hb] at hcall
        go_wp2_with (go_at_fn g; refine hcall.mono ?_; rintro e w' ⟨rfl, hb'⟩)
        have HB2 := Lib.hid (HB.out.trans (hb'.mono HB.out.size))
        clear hb' hcall
        go_roundw
        case rel => exact ⟨k + 1, by omega, by go_num, HB2.out, HIS.out hb⟩
        case measure => simp [RowKit.intOf]; omega
      | true =>
        rw [hb] at hcall
        go_wp2_with (go_at_fn g; refine hcall.mono ?_; rintro e w' ⟨rfl, hb'⟩)
        have HB2 := Lib.hid (HB.out.trans (hb'.mono HB.out.size))
        clear hb' hcall
        go_ret
        exact ⟨k, rfl, .inr ⟨k, by rw [HLen.out]; exact hlt, rfl, by rw [← HZ.out]; exact hb⟩, HB2.out⟩
    · have hkn : k = n := by omega
      have HK := Lib.hid hkn
      have k1 : ¬ (k : Int) < (n : Int) := by omega
      clear h hB hI hg hkn hlt hk
      go_wp2_with (fail)
      go_ret
      exact ⟨-1, rfl, .inl ⟨rfl, by rw [HLen.out, ← HK.out]; exact HI.out⟩, HB.out⟩
theorem IxO.any {p : Int → Bool} {L : List Int} {r : Int} (h : IxO p L r) : decide (0 ≤ r) = L.any p := by
  rcases h with ⟨rfl, h⟩ | ⟨k, hk, rfl, e⟩
  · symm
    rw [show decide ((0 : Int) ≤ -1) = false from rfl, List.any_eq_false]
    intro x hx
    obtain ⟨i, hi, rfl⟩ := List.getElem_of_mem hx
    have := h i hi
    have e : L[i] = num L i := by simp [num, List.getD, hi]
    rw [e, this]; decide
  · symm
    rw [decide_eq_true (by omega), List.any_eq_true]
    exact ⟨num L k, by rw [show num L k = L[k] by simp [num, List.getD, hk]]; exact List.getElem_mem hk, e⟩
theorem containsI_any (g : FuncId) (lb : Array Value) (eg : ∀ args w, (callFunc g args).run Try.prog w = .ok (.enter g args) w) (p : Int → Bool) (w : World) (hg : GivesI g lb p w) (a : Option Addr) (n c : Nat) (L : List Int) (h : Ins w a n L) (hn : n ≤ 1000000000000) :
    Calls Try.prog 48 #[.slice a n c, .func (.func g) #[] lb] w fun e w' => e = .returned (.bool (L.any p)) ∧ Below w.heap.size w w' := by
  have hi := indexI_any g lb eg p w hg a n c L h hn
  clear hg h
  go_enter Try.func48, Try.ntmps48
  go_wp2_with (fail)
  refine hi.mono ?_
  rintro e w' ⟨r, rfl, hr, hb⟩
  have hr' := hr.any
  have HB := Lib.hid hb
  clear hr hb hi
  go_wp2_with (fail)
  go_ret
  exact ⟨by rw [← hr']; rfl, HB.out⟩

/-- What a reader has read; or what was wrong. -/
abbrev St := Except Int (List Int)
def stp (N : Int) (blk : Int → Option (List Int)) (st : St) (q : Int) : St := match st with
  | .error e => .error e
  | .ok l => if isA N q = true then (match blk q with
    | none => .error 14
    | some b => if b.length = 56 then .ok (l ++ [q]) else .error 15) else .error 15
/-- The bytes that a reading answers; the pointers. -/
def dat (N : Int) (blk : Int → Option (List Int)) (st : St) (q : Int) : List Int := match stp N blk st q with
  | .ok _ => (blk q).getD []
  | .error _ => []
def pS (N : Int) (blk : Int → Option (List Int)) (st : St) (q : Int) : List Int := match stp N blk st q with
  | .ok _ => gpL (dat N blk st q) 28
  | .error _ => zer
def one (N : Int) (blk : Int → Option (List Int)) (st : St) (q : Int) : St × List Int × Bool := if q = 0 then (st, zer, false) else (stp N blk st q, pS N blk st q, !som (pS N blk st q))
section
variable {N : Int} {blk : Int → Option (List Int)}
end

theorem som_iff {ks : List Int} : som ks = true ↔ ∃ i, i < ks.length ∧ num ks i ≠ 0 := by
  rw [som, List.any_eq_true]
  constructor
  · rintro ⟨x, hx, hne⟩
    obtain ⟨i, hi, rfl⟩ := List.getElem_of_mem hx
    exact ⟨i, hi, by simpa [num, List.getD, hi] using hne⟩
  · rintro ⟨i, hi, hne⟩
    exact ⟨ks[i], List.getElem_mem hi, by simpa [num, List.getD, hi] using hne⟩
theorem som_false {ks : List Int} (h : ∀ i, i < ks.length → num ks i = 0) : som ks = false := by
  cases hs : som ks with
  | false => rfl
  | true =>
    obtain ⟨i, hi, hne⟩ := som_iff.1 hs
    exact absurd (h i hi) hne

/-- Blocks by their addresses: the first that has the address. -/
def blkF (ks : List Int) (f : Nat → Pc) (q : Int) : Option (List Int) := ((List.range ks.length).find? fun i => num ks i == q).map fun i => (f i).zs
theorem blkF_at {ks : List Int} {f : Nat → Pc} {q : Int} {i : Nat} (hi : i < ks.length) (h : num ks i = q) (hn : ∀ j, j < i → num ks j ≠ q) : blkF ks f q = some (f i).zs := by
  have : (List.range ks.length).find? (fun i => num ks i == q) = some i := by
    rw [List.find?_range_eq_some]
    exact ⟨by simpa using h, by simpa using hi, fun j hj => by simpa using hn j hj⟩
  rw [blkF, this]
  rfl
theorem blkF_no {ks : List Int} {f : Nat → Pc} {q : Int} (hn : ∀ j, j < ks.length → num ks j ≠ q) : blkF ks f q = none := by
  have : (List.range ks.length).find? (fun i => num ks i == q) = none := by
    rw [List.find?_eq_none]
    intro j hj
    simpa using hn j (List.mem_range.1 hj)
  rw [blkF, this]
  rfl
/-- A store in memory. -/
structure Sto (w : World) (p : Nat) (A : Option Addr) (nA cA : Nat) (Dt : Option Addr) (nD cD : Nat) (ks : List Int) (f : Nat → Pc) : Prop where
  lt : p < w.heap.size
  c0 : w.cell? ⟨p, 0, none⟩ = some (.slice A nA cA)
  c1 : w.cell? ⟨p, 1, none⟩ = some (.slice Dt nD cD)
  ad : Ins w A nA ks
  da : Rws w Dt nD f
  le : nA ≤ nD
  mx : nA ≤ 1000000
  few : ∀ i, i < nA → (f i).n ≤ 1000000000000
section
variable {w w' : World} {p : Nat} {A : Option Addr} {nA cA : Nat} {Dt : Option Addr} {nD cD : Nat} {ks : List Int} {f : Nat → Pc}
theorem Sto.next (h : Sto w p A nA cA Dt nD cD ks f) (hb : Below w.heap.size w w') : Sto w' p A nA cA Dt nD cD ks f :=
  ⟨Nat.lt_of_lt_of_le h.lt hb.size, (hb.cell (p := ⟨p, 0, none⟩) h.lt).trans h.c0, (hb.cell (p := ⟨p, 1, none⟩) h.lt).trans h.c1, h.ad.next hb, h.da.next hb, h.le, h.mx, h.few⟩
/-- What Block answers. -/
def BlkPost (w : World) (x : Option (List Int)) (e : Ending) (w' : World) : Prop :=
  (x = none → e = .returned (.tuple #[.slice none 0 0, .int .i64 14])) ∧
  (∀ z, x = some z → ∃ a n c, e = .returned (.tuple #[.slice a n c, .int .i64 0]) ∧ Pin w' a n c z ∧ ∀ y, a = some y → w.heap.size ≤ y.block) ∧ Below w.heap.size w w'
theorem rblk_any (q : Int) (h : Sto w p A nA cA Dt nD cD ks f) :
    Calls Try.prog 107 #[.pointer (some ⟨p, 0, none⟩), .int .i64 q] w (BlkPost w (blkF ks f q)) := by
  have HS := Lib.hid h
  clear h
  go_enter Try.func107, Try.ntmps107
  go_wp2_with (fail)
  go_loopw [6] (fun v wr => ∃ i : Nat, i ≤ nA ∧ v = .int .i64 i ∧ (∀ j, j < i → num ks j ≠ q) ∧ Below w.heap.size w wr) (fun v _ => nA - (RowKit.intOf v).toNat)
  case atStart => exact ⟨0, by omega, rfl, (fun j hj => by omega), Below.refl _ _⟩
  case round =>
    obtain ⟨i, hi, rfl, hne, hb⟩ := hrel
    have HN := Lib.hid hne
    have HB := Lib.hid hb
    have HR := Lib.hid (HS.out.next hb)
    have c0 := HR.out.c0
    have c1 := HR.out.c1
    have hmx := HR.out.mx
    clear hne hb
    by_cases hlt : i < nA
    · obtain ⟨b, off, rfl, hbl, hcs⟩ := HR.out.ad.at (by omega : 0 < nA)
      have hc1 := hcs i hlt
      obtain ⟨z, hz⟩ : ∃ z, z = num ks i := ⟨_, rfl⟩
      rw [← hz] at hc1
      have HZ := Lib.hid hz
      clear hcs hz hbl
      by_cases ez : z = q
      · have dz : (z == q) = true := by simp [ez]
        have HX := Lib.hid (blkF_at (f := f) (i := i) (by rw [HR.out.ad.len]; exact hlt) (by rw [← HZ.out, ez]) HN.out)
        have hld := HR.out.le
        obtain ⟨b2, o2, e2, hl2, hr2⟩ : ∃ b off, Dt = some ⟨b, off, none⟩ ∧ b < wr.heap.size ∧ ∀ i, i < nD → wr.cell? ⟨b, off + i, none⟩ = some (.slice (f i).a (f i).n (f i).c) := by
          rcases HR.out.da.place with h0 | h
          · omega
          · exact h
        have hcd := hr2 i (by omega)
        have hpl := HR.out.lt
        rw [e2] at c1
        have HPI := Lib.hid (HR.out.da.each i (by omega))
        have HFW := Lib.hid (HR.out.few i hlt)
        have i2 : (i : Int) < (nD : Int) := by omega
        have hbs := (Below.refl wr.heap.size wr).alloc (Nat.le_refl _) (.cells #[] 5)
        have HBS := Lib.hid hbs
        clear ez e2 hr2 hbs
        go_wp2_with (at_builtin; go_must (refine wpList_ap rfl (.tmp 27) (.tmp 34) rfl wr.heap.size _ 0 [] rfl (own_none wr wr.heap.size (Nat.le_refl _)) (f i).a (f i).n (f i).c (f i).zs rfl (HPI.out.bys.alloc _) HPI.out.nil (by have := HFW.out; omega) (by simp) wr HBS.out ?_); intro v w1 o b; obtain ⟨a9, c9, rfl, hp9, hn9⟩ := o.pin; have HP9 := Lib.hid hp9; have HN9 := Lib.hid hn9; have HB9 := Lib.hid b; clear hp9 hn9 b o)
        go_ret2
        refine ⟨(fun e => by rw [HX.out] at e; cases e), fun z e => ?_, HB.out.trans (HB9.out.mono HB.out.size)⟩
        rw [HX.out] at e
        cases e
        exact ⟨_, _, _, rfl, by simpa using HP9.out, fun y e => Nat.le_trans HB.out.size (HN9.out y e).1⟩
      · have dz : (z == q) = false := by simp [ez]
        have HEZ := Lib.hid ez
        clear ez
        go_wp2_with (fail)
        go_roundw
        case rel => exact ⟨i + 1, by omega, by go_num, (fun j hj => by
          by_cases e : j = i
          · subst e; rw [← HZ.out]; exact HEZ.out
          · exact HN.out j (by omega)), HB.out⟩
        case measure => simp [RowKit.intOf]; omega
    · obtain rfl : i = nA := by omega
      have HX := Lib.hid (blkF_no (ks := ks) (f := f) (q := q) fun j hj => HN.out j (by rw [HR.out.ad.len] at hj; exact hj))
      go_wp2_with (fail)
      go_ret2
      exact ⟨fun _ => rfl, (fun z e => by rw [HX.out] at e; cases e), HB.out⟩
end

/-- Of the blocks that were there only those of M have turned. -/
structure Turn (M : Nat → Prop) (w w' : World) : Prop where
  os : w'.os = w.os
  tape : w'.tape = w.tape
  output : w'.output = w.output
  size : w.heap.size ≤ w'.heap.size
  block : ∀ k, k < w.heap.size → ¬ M k → w'.heap[k]? = w.heap[k]?
theorem Turn.refl (M : Nat → Prop) (w : World) : Turn M w w := ⟨rfl, rfl, rfl, Nat.le_refl _, fun _ _ _ => rfl⟩
theorem Turn.trans {M : Nat → Prop} {a b c : World} (h : Turn M a b) (k : Turn M b c) : Turn M a c :=
  ⟨k.os.trans h.os, k.tape.trans h.tape, k.output.trans h.output, Nat.le_trans h.size k.size, fun i hi hm => (k.block i (Nat.lt_of_lt_of_le hi h.size) hm).trans (h.block i hi hm)⟩
/-- What the second step turns is of the first one's, or new. -/
theorem Turn.trans2 {M M' : Nat → Prop} {a b c : World} (h : Turn M a b) (k : Turn M' b c) (hm : ∀ j, M' j → M j ∨ a.heap.size ≤ j) : Turn M a c :=
  ⟨k.os.trans h.os, k.tape.trans h.tape, k.output.trans h.output, Nat.le_trans h.size k.size, fun i hi hn => (k.block i (Nat.lt_of_lt_of_le hi h.size) (fun h' => by
    rcases hm i h' with h1 | h1
    · exact hn h1
    · omega)).trans (h.block i hi hn)⟩
theorem Turn.mono {M M' : Nat → Prop} {w w' : World} (h : Turn M w w') (hm : ∀ k, M k → M' k) : Turn M' w w' := ⟨h.os, h.tape, h.output, h.size, fun k hk hn => h.block k hk fun x => hn (hm k x)⟩
theorem Turn.of_below {M : Nat → Prop} {w w' : World} (h : Below w.heap.size w w') : Turn M w w' := ⟨h.os, h.tape, h.output, h.size, fun k hk _ => h.block k hk⟩
theorem Turn.of_grown {M : Nat → Prop} {w w' : World} {row : Option Nat} (h : w.grownBy w' row) (hb : ∀ b, row = some b → M b) : Turn M w w' :=
  ⟨h.os, h.tape, h.output, h.size, fun k hk hn => h.block k hk (fun e => hn (hb k e.symm))⟩
theorem Turn.setCell {M : Nat → Prop} (w : World) {a : Addr} (hb : M a.block) (u : Value) : Turn M w (w.setCell a u) :=
  ⟨rfl, rfl, rfl, by simp [World.setCell], fun k _ hn => Below.heap_setCell w a u k (fun e => hn (e ▸ hb))⟩
theorem Turn.below {M : Nat → Prop} {w w' : World} (h : Turn M w w') {B : Nat} (hB : B ≤ w.heap.size) (hm : ∀ k, M k → B ≤ k) : Below B w w' :=
  ⟨h.os, h.tape, h.output, h.size, fun k hk => h.block k (by omega) fun x => by have := hm k x; omega⟩
theorem Turn.cell {M : Nat → Prop} {w w' : World} (h : Turn M w w') {a : Addr} (hlt : a.block < w.heap.size) (hm : ¬ M a.block) : w'.cell? a = w.cell? a := World.cell?_of_block (w := w) (h.block _ hlt hm)
theorem Turn.frozen {M : Nat → Prop} {w w' : World} (h : Turn M w w') {a : Addr} (hlt : a.block < w.heap.size) (hm : ¬ M a.block) : w'.frozen? a = w.frozen? a := World.frozen?_of_block (w := w) (h.block _ hlt hm)
theorem Ins.turn {M : Nat → Prop} {w w' : World} {a : Option Addr} {n : Nat} {ks : List Int} (h : Ins w a n ks) (ht : Turn M w w') (hm : ∀ y, a = some y → ¬ M y.block) : Ins w' a n ks := by
  refine ⟨h.len, ?_⟩
  rcases h.place with h0 | ⟨b, off, ha, hlt, hc⟩
  · exact .inl h0
  · exact .inr ⟨b, off, ha, Nat.lt_of_lt_of_le hlt ht.size, fun i hi => (ht.cell (a := ⟨b, off + i, none⟩) hlt (hm ⟨b, off, none⟩ ha)).trans (hc i hi)⟩
theorem Pin.turn {M : Nat → Prop} {w w' : World} {a : Option Addr} {n c : Nat} {zs : List Int} (h : Pin w a n c zs) (ht : Turn M w w') (hm : ∀ y, a = some y → ¬ M y.block) : Pin w' a n c zs := by
  refine ⟨⟨h.bys.len, h.bys.small, ?_⟩, h.nil, h.cap, h.max⟩
  rcases h.bys.place with h0 | ⟨b, off, ha, hlt, hc⟩
  · exact .inl h0
  · exact .inr ⟨b, off, ha, Nat.lt_of_lt_of_le hlt ht.size, fun i hi => (ht.cell (a := ⟨b, off + i, none⟩) hlt (hm ⟨b, off, none⟩ ha)).trans (hc i hi)⟩
theorem OwnI.turn {M : Nat → Prop} {w w' : World} {B : Nat} {v : Value} {n : Nat} {ks : List Int} (h : OwnI w B v n ks) (ht : Turn M w w') (hm : ∀ j, v.ownBlock = some j → ¬ M j) : OwnI w' B v n ks := by
  refine ⟨h.1, ?_⟩
  rcases h.2 with h1 | ⟨g, cap, cur, rfl, hb, hg, r⟩
  · exact .inl h1
  · exact .inr ⟨g, cap, cur, rfl, hb, (ht.block g (lt_of_block hg) (hm g rfl)).trans hg, r⟩
/-- 'append(s, l...)' of numbers, s of the call's own. -/
theorem app_run {w : World} {B : Nat} {v : Value} {n : Nat} {ks : List Int} (hown : OwnI w B v n ks) {a : Option Addr} {m c : Nat} {ys : List Int} (hu : Ins w a m ys) (hnil : a = none → m = 0 ∧ c = 0) (hnm : n + m ≤ 1000000000000) (hB : B ≤ w.heap.size) (ty : TypeId) :
    ∃ v' w', (Builtin.append_ #[25, 25] ty #[v, .slice a m c]).run Try.prog w = .ok v' w' ∧ OwnI w' B v' (n + m) (ks ++ ys) ∧ w.grownBy w' v.ownBlock ∧ (v'.ownBlock = v.ownBlock ∨ v'.ownBlock = some w.heap.size) := by
  obtain ⟨i0, hi, hz0, hz1, hz2⟩ := info_parts info3
  cases a with
  | none =>
    obtain ⟨rfl, rfl⟩ := hnil rfl
    have hy : ys = [] := List.eq_nil_of_length_eq_zero hu.len
    subst hy
    exact ⟨v, w, run_append_owned_none (P := Try.prog) (w := w) B 25 ty 3 i0 1 Try.underlying25 hi v n _ hown, by rw [List.append_nil]; exact hown, World.grownBy.refl _ _, .inl rfl⟩
  | some p =>
    obtain ⟨v', w', hr, h2, h3, _, h5⟩ := run_append_own_at (P := Try.prog) w B 25 ty 3 i0 (.int .i64 0) 1 8 Try.underlying25 hi hz0 hz1 hz2 rfl (by decide) v n _ hown p m c (ys.map (Value.int .i64)) (by simp [hu.len])
      (fun j x hj => by
        have hj' : j < ys.length := by
          rcases Nat.lt_or_ge j ys.length with h | h
          · exact h
          · rw [List.getElem?_eq_none (by simpa using h)] at hj; cases hj
        obtain ⟨b, off, e, _, hc⟩ := hu.at (by rw [← hu.len]; omega)
        cases e
        rw [show (⟨b, off, none⟩ : Addr).add j = ⟨b, off + j, none⟩ by unfold Addr.add; split <;> simp_all, hc j (by rw [← hu.len]; exact hj')]
        rw [List.getElem?_map, List.getElem?_eq_getElem hj'] at hj
        simp at hj
        simp [num, List.getD, hj', hj])
      (fun x hx => by obtain ⟨z, _, rfl⟩ := List.mem_map.1 hx; rfl) (by unfold maxLen; omega) (by omega) hB
    exact ⟨v', w', hr, by unfold OwnI; rw [List.map_append]; exact h2, h3, h5⟩
theorem wpList_apq {w : World} {ops : Array Oper} {rest : List Oper} {o : Oper} {a : Act} {Q : Exit → Act → World → Prop} (hgd : o.guard = none) (s x : Operand)
    (ho : o.op = .call { callee := .builtin .append, args := #[s, x], argTypes := #[25, 25] })
    (B : Nat) (v : Value) (n : Nat) (ks : List Int) (hs : a.eval s = v) (hown : OwnI w B v n ks) (ad : Option Addr) (m c : Nat) (ys : List Int) (hx : a.eval x = .slice ad m c) (hu : Ins w ad m ys) (hnil : ad = none → m = 0 ∧ c = 0)
    (hnm : n + m ≤ 1000000000000) (hB : B ≤ w.heap.size)
    (h : ∀ v' w', OwnI w' B v' (n + m) (ks ++ ys) → w.grownBy w' v.ownBlock → (v'.ownBlock = v.ownBlock ∨ v'.ownBlock = some w.heap.size) → wpList Try.prog ops Q rest (a.put o.dst v') w') : wpList Try.prog ops Q (o :: rest) a w := by
  obtain ⟨v', w', hr, h2, h3, h4⟩ := app_run hown hu hnil hnm hB o.type
  refine wpList_plain hgd fun K hK => ?_
  unfold Oper.wp execOp
  simp only [ho, resolve, invoke, builtin, Sem.run_bind, Sem.run_pure, Result.andThen_ok, List.map_toArray, List.map_cons, List.map_nil, hs, hx, hr]
  exact hK _ _ (h v' w' h2 h3 h4)

/-- What a reader is over. -/
structure Sv where
  d : Int
  r : Int
  s : Int
  p : Nat
  A : Option Addr
  nA : Nat
  cA : Nat
  Dt : Option Addr
  nD : Nat
  cD : Nat
  ks : List Int
  f : Nat → Pc
  w0 : World
abbrev Sv.blk (S : Sv) : Int → Option (List Int) := blkF S.ks S.f
/-- The blocks that a reader's calls turn. -/
def Tv (g : Nat) (v : Value) (j : Nat) : Prop := j = g ∨ v.ownBlock = some j
section
variable {w w' : World} {S : Sv} {g : Nat} {v : Value} {l : List Int} {bad : Int}
theorem OwnI.form {B : Nat} {n : Nat} {ks : List Int} (h : OwnI w B v n ks) : ∃ a c, v = .slice a n c := by
  rcases h.2 with ⟨rfl, h0⟩ | ⟨g', cap, cur, rfl, _⟩
  · have := h.1
    simp at this
    exact ⟨none, 0, by rw [h0]⟩
  · exact ⟨_, _, rfl⟩
end
end Go.Proofs.Ytegcjpocdfmpfaa
