/-
  Blocks of the call's own.
-/
import Derived.Test.YtegcjpocdfmpfaaVao
import Derived.Test.YtegcjpocdfmpfaaVak
import Derived.Test.YtegcjpocdfmpfaaVaq
import Derived.Test.YtegcjpocdfmpfaaVal
import Derived.Test.YtegcjpocdfmpfaaVai
import Derived.Deep.CutBlock
import Derived.Deep.CutRange
set_option linter.unusedVariables false
set_option linter.unusedSimpArgs false
set_option maxRecDepth 100000
set_option maxHeartbeats 16000000
namespace Go.Proofs.Ytegcjpocdfmpfaa
open Go.RowKit

/-- A block in memory. -/
structure Bl where
  own : Int
  ind : Int
  a : Option Addr
  n : Nat
  c : Nat
  z : List Int
instance : Inhabited Bl := ⟨⟨0, 0, none, 0, 0, []⟩⟩
def Bl.bk (x : Bl) : Bk := ⟨x.own, x.ind, x.z⟩
abbrev blV (x : Bl) : Value := .agg #[.int .i64 x.own, .int .i64 x.ind, .slice x.a x.n x.c]
def blC (x : Bl) : Array Value := #[.int .i64 x.own, .int .i64 x.ind, .slice x.a x.n x.c]
abbrev noB : Bl := ⟨0, 0, none, 0, 0, []⟩
def blL (gs : List Bl) : List Value := gs.flatMap fun x => (blC x).toList
theorem blL_len (gs : List Bl) : (blL gs).length = gs.length * 3 := by
  induction gs with
  | nil => rfl
  | cons x gs ih =>
    unfold blL at ih ⊢
    rw [List.flatMap_cons, List.length_append, ih]
    simp [blC]
    omega
theorem blL_at (gs : List Bl) {i j : Nat} (hi : i < gs.length) (hj : j < 3) : (blL gs)[i * 3 + j]? = (blC gs[i])[j]? := by
  induction gs generalizing i with
  | nil => simp at hi
  | cons x gs ih =>
    have e : blL (x :: gs) = (blC x).toList ++ blL gs := rfl
    have hl : (blC x).toList.length = 3 := rfl
    rw [e]
    cases i with
    | zero => rw [List.getElem?_append_left (by omega), Nat.zero_mul, Nat.zero_add, Array.getElem?_toList]; rfl
    | succ i =>
      simp only [List.length_cons] at hi
      rw [List.getElem?_append_right (by omega), hl, show (i + 1) * 3 + j - 3 = i * 3 + j by omega]
      exact ih (by omega)
theorem blL_app (gs zs : List Bl) : blL (gs ++ zs) = blL gs ++ blL zs := List.flatMap_append
structure OwB (w : World) (B : Nat) (v : Value) (gs : List Bl) : Prop where
  row : w.ownsRow B 52 3 v gs.length (blL gs)
  each : ∀ x, x ∈ gs → Pin w x.a x.n x.c x.z
  apart : ∀ x, x ∈ gs → ∀ y, x.a = some y → v.ownBlock ≠ some y.block ∧ y.block < w.heap.size
theorem OwB.turn {M : Nat → Prop} {w w' : World} {B : Nat} {v : Value} {gs : List Bl} (h : OwB w B v gs) (ht : Turn M w w') (hv : ∀ j, v.ownBlock = some j → ¬ M j) (hm : ∀ x, x ∈ gs → ∀ y, x.a = some y → ¬ M y.block) : OwB w' B v gs := by
  refine ⟨⟨h.row.1, ?_⟩, fun x hx => (h.each x hx).turn ht (hm x hx), fun x hx y e => ⟨(h.apart x hx y e).1, Nat.lt_of_lt_of_le (h.apart x hx y e).2 ht.size⟩⟩
  rcases h.row.2 with h1 | ⟨g, cap, cur, rfl, hb, hg, r⟩
  · exact .inl h1
  · exact .inr ⟨g, cap, cur, rfl, hb, (ht.block g (lt_of_block hg) (hv g rfl)).trans hg, r⟩
theorem OwB.next {w w' : World} {B : Nat} {v : Value} {gs : List Bl} (h : OwB w B v gs) (hb : Below w.heap.size w w') : OwB w' B v gs := h.turn (M := fun _ => False) (Turn.of_below hb) (fun j e h => h) (fun x hx y e h => h)
/-- A block in memory, from a cell on; a row of them. -/
structure BlIn (w : World) (b o : Nat) (x : Bl) : Prop where
  c0 : w.cell? ⟨b, o, none⟩ = some (.int .i64 x.own)
  c1 : w.cell? ⟨b, o + 1, none⟩ = some (.int .i64 x.ind)
  c2 : w.cell? ⟨b, o + 2, none⟩ = some (.slice x.a x.n x.c)
  pin : Pin w x.a x.n x.c x.z
def BlsAt (w : World) (a : Option Addr) (gs : List Bl) : Prop :=
  gs.length = 0 ∨ ∃ b off, a = some ⟨b, off, none⟩ ∧ b < w.heap.size ∧ ∀ i (hi : i < gs.length), BlIn w b (off + i * 3) gs[i]
theorem BlIn.next {w w' : World} {b o : Nat} {x : Bl} (h : BlIn w b o x) (hlt : b < w.heap.size) (hb : Below w.heap.size w w') : BlIn w' b o x :=
  have g := fun j => hb.cell (p := ⟨b, j, none⟩) hlt
  ⟨(g _).trans h.c0, (g _).trans h.c1, (g _).trans h.c2, h.pin.next hb⟩
theorem BlsAt.next {w w' : World} {a : Option Addr} {gs : List Bl} (h : BlsAt w a gs) (hb : Below w.heap.size w w') : BlsAt w' a gs := by
  rcases h with h0 | ⟨b, off, e, hlt, hc⟩
  · exact .inl h0
  · exact .inr ⟨b, off, e, Nat.lt_of_lt_of_le hlt hb.size, fun i hi => (hc i hi).next hlt hb⟩
theorem OwB.bls {w : World} {B : Nat} {v : Value} {gs : List Bl} (h : OwB w B v gs) : ∃ a c, v = .slice a gs.length c ∧ BlsAt w a gs ∧ gs.length ≤ c ∧ (∀ x, a = some x → B ≤ x.block ∧ x.block < w.heap.size) := by
  rcases h.row.2 with ⟨rfl, h0⟩ | ⟨g, cap, cur, rfl, hb, hg, hnc, hm, hsz, htake⟩
  · exact ⟨none, 0, by rw [h0], .inl h0, by omega, (fun x hx => by cases hx)⟩
  · refine ⟨some ⟨g, 0, none⟩, cap, rfl, .inr ⟨g, 0, rfl, lt_of_block hg, fun i hi => ?_⟩, hnc, fun x hx => by cases hx; exact ⟨hb, lt_of_block hg⟩⟩
    have c := fun (j : Nat) (hj : j < 3) => (h.row.cellAt (i * 3 + j) (by omega)).trans (blL_at gs hi hj)
    refine ⟨?_, ?_, ?_, h.each _ (List.getElem_mem hi)⟩
    · rw [Nat.zero_add]; exact c 0 (by decide)
    · rw [Nat.zero_add]; exact c 1 (by decide)
    · rw [Nat.zero_add]; exact c 2 (by decide)
theorem infoB : (Try.prog.info? 52).map (fun i => (i.zero, i.size, i.bytes)) = some (some (blV noB), 3, 40) := by kernel_rfl
/-- 'append(out, blocks..)'. -/
theorem wpList_apB {w : World} {ops : Array Oper} {rest : List Oper} {o : Oper} {a : Act} {Q : Exit → Act → World → Prop} (hgd : o.guard = none) (s x : Operand)
    (ho : o.op = .call { callee := .builtin .append, args := #[s, x], argTypes := #[30, 30] })
    (B : Nat) (v : Value) (gs : List Bl) (hs : a.eval s = v) (hown : OwB w B v gs) (g : Nat) (zs : List Bl) (m : Nat) (hm : zs.length = m) (hx : a.eval x = .slice (some ⟨g, 0, none⟩) m m) (hz : ∀ z, z ∈ zs → Pin w z.a z.n z.c z.z) (hza : ∀ z, z ∈ zs → ∀ y, z.a = some y → v.ownBlock ≠ some y.block ∧ y.block < w.heap.size)
    {t : TypeId} (hg : w.heap[g]? = some (.cells (blL zs).toArray t (0, 0))) (hn : gs.length + m ≤ 1000000) (hB : B ≤ w.heap.size)
    (h : ∀ v' w', OwB w' B v' (gs ++ zs) → w.grownBy w' v.ownBlock → (v'.ownBlock = v.ownBlock ∨ v'.ownBlock = some w.heap.size) → wpList Try.prog ops Q rest (a.put o.dst v') w') : wpList Try.prog ops Q (o :: rest) a w := by
  subst hm
  obtain ⟨i0, hi, hz0, hz1, hz2⟩ := info_parts infoB
  obtain ⟨v', w', hr, h2, h3, _, h5⟩ := run_append_own_at (P := Try.prog) w B 30 o.type 52 i0 (blV noB) 3 40 Try.underlying30 hi hz0 hz1 hz2 rfl (by decide) v gs.length _ hown.row ⟨g, 0, none⟩ zs.length zs.length (blL zs) (blL_len zs)
    (World.news_of_block hg) (fun u hu => by
      unfold blL at hu
      obtain ⟨z, hz, hu⟩ := List.mem_flatMap.1 hu
      simp [blC] at hu
      rcases hu with rfl | rfl | rfl <;> rfl) (by unfold maxLen; omega) (by omega) hB
  refine wpList_plain hgd fun K hK => ?_
  unfold Oper.wp execOp
  simp only [ho, resolve, invoke, builtin, Sem.run_bind, Sem.run_pure, Result.andThen_ok, List.map_toArray, List.map_cons, List.map_nil, hs, hx, hr]
  have ht : Turn (fun j => v.ownBlock = some j) w w' := Turn.of_grown h3 (fun b e => e)
  refine hK _ _ (h v' w' ⟨by rw [blL_app, List.length_append]; exact h2, fun z hz' => ?_, fun z hz' y e => ?_⟩ h3 h5)
  · rcases List.mem_append.1 hz' with h1 | h1
    · exact (hown.each z h1).turn ht (fun y e h' => (hown.apart z h1 y e).1 h')
    · exact (hz z h1).turn ht (fun y e h' => (hza z h1 y e).1 h')
  · have hy : v.ownBlock ≠ some y.block ∧ y.block < w.heap.size := by
      rcases List.mem_append.1 hz' with h1 | h1
      · exact hown.apart z h1 y e
      · exact hza z h1 y e
    refine ⟨?_, Nat.lt_of_lt_of_le hy.2 ht.size⟩
    rcases h5 with e5 | e5
    · rw [e5]; exact hy.1
    · rw [e5]
      intro e6
      simp only [Option.some.injEq] at e6
      omega

/-- The numbers of the blocks that have an address. -/
def ths (A : List Int) : Nat → List Int
  | 0 => []
  | k + 1 => ths A k ++ (if num A k = 0 then [] else [(k : Int)])
theorem ths_len (A : List Int) (k : Nat) : (ths A k).length ≤ k := by
  induction k with
  | zero => simp [ths]
  | succ k ih =>
    rw [ths, List.length_append]
    split
    · simp; omega
    · simp; omega
/-- Numbers that are answered. -/
def ThP (w : World) (l : List Int) (e : Ending) (w' : World) : Prop := ∃ a' c', e = .returned (.slice a' l.length c') ∧ Ins w' a' l.length l ∧ Below w.heap.size w w'
theorem pthereA_any (a : Option Addr) (n c : Nat) (ks : List Int) (w : World) (h : Ins w a n ks) (hn : n ≤ 1000000) :
    Calls Try.prog 61 #[.slice a n c] w (ThP w (ths ks n)) := by
  have HI := Lib.hid h
  have HN := Lib.hid hn
  clear h hn
  go_enter Try.func61, Try.ntmps61
  go_wp2_with (fail)
  go_loopw [3, 4, 5, 8] (fun v3 v4 v5 v8 wr => ∃ k : Nat, k ≤ n ∧ v8 = .int .i64 k ∧ OwnI wr w.heap.size v3 (ths ks k).length (ths ks k) ∧ Below w.heap.size w wr) (fun _ _ _ v8 _ => n - (RowKit.intOf v8).toNat)
  case atStart => exact ⟨0, Nat.zero_le _, rfl, ownI_nil _ _, Below.refl _ _⟩
  case round =>
    obtain ⟨k, hk, rfl, hO, hB⟩ := hrel
    obtain ⟨ao, co, rfl⟩ := hO.form
    have HO := Lib.hid hO
    have HB := Lib.hid hB
    have hn := HN.out
    clear hO hB
    by_cases hlt : k < n
    · obtain ⟨b, off, rfl, hbl, hcs⟩ := (HI.out.next HB.out).at (by omega : 0 < n)
      have hc1 := hcs k hlt
      obtain ⟨z, hz⟩ : ∃ z, z = num ks k := ⟨_, rfl⟩
      rw [← hz] at hc1
      have HZ := Lib.hid hz
      have k1 : (k : Int) < (n : Int) := by omega
      clear hcs hz hbl
      by_cases ez : z = 0
      · have d1 : (z != 0) = false := by simp [ez]
        have HT := Lib.hid (show ths ks (k + 1) = ths ks k by rw [ths, ← HZ.out, if_pos ez, List.append_nil])
        have hcall := pSome_any z wr
        rw [d1] at hcall
        clear ez d1
        go_wp2_with (fail)
        refine hcall.mono ?_
        rintro e w2 ⟨rfl, rfl⟩
        clear hcall
        go_wp2_with (fail)
        go_roundw
        case rel => exact ⟨k + 1, by omega, by go_num, by rw [HT.out]; exact HO.out, HB.out⟩
        case measure => simp [RowKit.intOf]; omega
      · have d1 : (z != 0) = true := by simp [ez]
        have HT := Lib.hid (show ths ks (k + 1) = ths ks k ++ [(k : Int)] by rw [ths, ← HZ.out, if_neg ez])
        have hcall := pSome_any z wr
        rw [d1] at hcall
        have HLE := Lib.hid (ths_len ks k)
        have hbx : Below wr.heap.size wr (wr.alloc (.cells #[.int .i64 (k : Int)] 3)) := (Below.refl _ _).alloc (Nat.le_refl _) _
        have HBX := Lib.hid hbx
        have HO2 := Lib.hid (HO.out.turn (M := fun _ => False) (Turn.of_below hbx) (fun j e h => h))
        clear ez d1 hbx
        go_wp2_with (fail)
        refine hcall.mono ?_
        rintro e w2 ⟨rfl, rfl⟩
        clear hcall
        go_wp2_with (at_builtin; go_must (refine wpList_apq rfl (.tmp 15) (.tmp 17) rfl w.heap.size _ (ths ks k).length (ths ks k) rfl HO2.out (some ⟨wr.heap.size, 0, none⟩) 1 1 [(k : Int)] rfl (ins_one' (k : Int) rfl) (fun h => by cases h) (by have := HLE.out; have := HN.out; omega) (Nat.le_trans HB.out.size HBX.out.size) ?_); intro v5 w5 hO5 hG5 hv5; have HO5 := Lib.hid hO5; have HB5 := Lib.hid ((HBX.out.mono HB.out.size).grown hG5 (Nat.le_trans HB.out.size HBX.out.size) (fun j hj => (World.ownsRow.lt HO2.out j hj).1)); clear hO5 hG5 hv5)
        go_roundw
        case rel => exact ⟨k + 1, by omega, by go_num, by rw [HT.out]; simpa using HO5.out, HB.out.trans HB5.out⟩
        case measure => simp [RowKit.intOf]; omega
    · have hin : k = n := by omega
      have k1 : ¬ (k : Int) < (n : Int) := by omega
      have HIN := Lib.hid hin
      obtain ⟨a', c', he, hi', _⟩ := HO.out.ins
      cases he
      have HI' := Lib.hid hi'
      clear hin hlt hk hi'
      go_wp2_with (fail)
      go_ret
      rw [← HIN.out]
      exact ⟨ao, co, rfl, HI'.out, HB.out⟩

/-- The pointers' blocks of addresses, as they are counted. -/
def ptF (l : List Int) : List Nat := l.foldl ptgS []
theorem ptF_snoc (l : List Int) (x : Int) : ptF (l ++ [x]) = ptgS (ptF l) x := by simp [ptF, List.foldl_append]
theorem ptL_all (l : List Int) : ptL l l.length = ptF l := by rw [ptL, List.take_length]; rfl
def ptI (a : Nat) : Int := if a = 0 then -1 else if a = 1 then -2 else (a : Int) - 2
theorem ptI_inj {a b : Nat} (h : ptI a = ptI b) : a = b := by
  unfold ptI at h
  split at h <;> split at h <;> (try split at h) <;> (try split at h) <;> omega
structure PtR (m : List Nat) (q : List Int) : Prop where
  len : m.length = q.length
  has : ∀ a, a ∈ m ↔ ptI a ∈ q
theorem PtR.ins {m : List Nat} {q : List Int} (h : PtR m q) (a : Nat) : PtR (insN m a) (insK (ptI a) q) := by
  unfold insN insK
  by_cases e : a ∈ m
  · rw [if_pos e, if_pos ((h.has a).1 e)]; exact h
  · rw [if_neg e, if_neg (fun x => e ((h.has a).2 x))]
    refine ⟨by simp [h.len], fun b => ?_⟩
    simp only [List.mem_append, List.mem_singleton, h.has]
    constructor
    · rintro (h1 | rfl)
      · exact .inl h1
      · exact .inr rfl
    · rintro (h1 | h1)
      · exact .inl h1
      · exact .inr (ptI_inj h1)
theorem pt_kp (A : List Int) (k : Nat) (hk : k ≤ 828) : PtR (ptF (ths A k)) (kp A k) := by
  induction k with
  | zero => exact ⟨rfl, fun a => by simp [ptF, ths, kp]⟩
  | succ k ih =>
    have ih := ih (by omega)
    rw [ths, kp]
    by_cases h0 : num A k = 0
    · rw [if_pos h0, if_pos h0, List.append_nil]
      by_cases h1 : k < 16
      · rw [if_pos h1]
        have : kp A k = [] := by
          cases k with
          | zero => rfl
          | succ j => rw [kp, if_pos (by omega)]
        rw [this] at ih
        exact ih
      · rw [if_neg h1]; exact ih
    · rw [if_neg h0, if_neg h0, ptF_snoc]
      by_cases h1 : k < 16
      · rw [if_pos h1, ptgS, if_pos (.inl (by omega))]
        have : kp A k = [] := by
          cases k with
          | zero => rfl
          | succ j => rw [kp, if_pos (by omega)]
        rw [this] at ih
        exact ih
      · rw [if_neg h1, ptgS, if_neg (by omega)]
        by_cases h2 : k < 44
        · rw [if_pos h2, if_pos (by omega)]
          exact ih.ins 0
        · rw [if_neg h2, if_neg (by omega), tdiv28 (by omega)]
          have := (ih.ins 1).ins (2 + (((k : Int) - 44) / 28).toNat)
          have e1 : ptI 1 = -2 := rfl
          have e2 : ptI (2 + (((k : Int) - 44) / 28).toNat) = (((k - 44) / 28 : Nat) : Int) := by
            unfold ptI
            rw [if_neg (by omega), if_neg (by omega)]
            omega
          rw [e1, e2] at this
          exact this
/-- How many pointers' blocks there are for addresses. -/
theorem pt_len {A : List Int} (h : A.length ≤ 828) : (ptL (ths A A.length) (ths A A.length).length).length = (kp A A.length).length := by
  rw [ptL_all]
  exact (pt_kp A A.length h).len
theorem insK_le (x : Int) (l : List Int) : (insK x l).length ≤ l.length + 1 := by
  unfold insK; split <;> simp
theorem kp_le (A : List Int) (k : Nat) : (kp A k).length ≤ 2 * k := by
  induction k with
  | zero => exact Nat.le_refl _
  | succ k ih =>
    rw [kp]
    split
    · simp
    split
    · omega
    split
    · have := insK_le (-1) (kp A k)
      omega
    · have := insK_le (-2) (kp A k)
      have := insK_le (((k : Int) - 44).tdiv 28) (insK (-2) (kp A k))
      omega
abbrev ndF' (f : Nat → Nw) : Nat → Nd := fun i => (f i).nd
theorem need_le {f : Nat → Nd} {K : Nat} (h : ∀ i, i < K → (f i).ads.length ≤ 828) : needN f K ≤ 1656 * K := by
  induction K with
  | zero => exact Nat.le_refl _
  | succ K ih =>
    have h1 := ih fun i hi => h i (by omega)
    have h2 := kp_le (f K).ads (f K).ads.length
    have h3 := h K (by omega)
    rw [needN]
    omega
/-- How many blocks a list has, as Count answers it. -/
def cntO (d r s : Int) (f : Nat → Nw) (n : Nat) : Int := if mrO d r s (lnL f n) = true then ((layB (fun _ => 0) (ndF' f) n).length : Int) else 0
theorem mr_few {d r s : Int} {f : Nat → Nw} {n : Nat} (h : mrO d r s (lnL f n) = true) : Rt d r s ∧ LR (adN d r s) (ndF' f) n ∧ ∀ i, i < n → (f i).ks.length ≤ 828 := by
  rw [mrO, Bool.and_eq_true, geoO_iff, lrO_iff, lnL_len] at h
  obtain ⟨h1, h2⟩ := h
  have e : ∀ i, i < n → (lnL f n).getD i default = (f i).nd := fun i hi => lnL_get f hi
  refine ⟨h1, ⟨h2.l1, h2.l2, ?_, ?_, fun i hi => ?_, fun i hi => ?_, fun i hi => ?_⟩, fun i hi => ?_⟩
  · have := h2.i0; rw [e 0 (by have := h2.l1; omega)] at this; exact this
  · have := h2.k0; rw [e 0 (by have := h2.l1; omega)] at this; exact this
  · have := h2.top i hi; rw [e i hi] at this; exact this
  · have := h2.up i hi; rw [e i (by omega), e (i + 1) hi] at this; exact this
  · have := h2.nd i hi; rw [e i hi] at this; exact this
  · have := (h2.nd i hi).l
    rw [e i hi] at this
    have h3 := blkN_le (f i).nd.size
    have : ((f i).ks.length : Int) ≤ blkN (f i).nd.size := this
    omega
theorem cnt_is {d r s : Int} {f : Nat → Nw} {n : Nat} (h : mrO d r s (lnL f n) = true) : cntO d r s f n = ((n + 3 + needN (ndF' f) n : Nat) : Int) := by
  rw [cntO, if_pos h, layB_len, off_need (mr_few h).2.2]
  omega
theorem pcount_any (d r s : Int) (a : Option Addr) (n c : Nat) (f : Nat → Nw) (w : World) (hl : NwsAt w a n f) (hn6 : n ≤ 1000000) :
    Calls Try.prog 19 #[gv d r s, .slice a n c] w fun e w' => e = .returned (.int .i64 (cntO d r s f n)) ∧ Below w.heap.size w w' := by
  have hx := Bx.mk' w d r s 23
  have hB : Below w.heap.size w (w.alloc (.cells #[.int .i64 d, .int .i64 r, .int .i64 s] 23 (0, 0))) := (Below.refl _ _).alloc (Nat.le_refl _) _
  obtain ⟨w1, hw1⟩ : ∃ w1, w1 = w.alloc (.cells #[.int .i64 d, .int .i64 r, .int .i64 s] 23 (0, 0)) := ⟨_, rfl⟩
  rw [← hw1] at hx hB
  have HB := Lib.hid hB
  have HL := Lib.hid (hl.next hB)
  have HW := Lib.hid hw1
  have hcall := pmr_any d r s a n c f w1 (hl.next hB) hn6
  have HN6 := Lib.hid hn6
  obtain ⟨mr, hmr⟩ : ∃ z, z = mrO d r s (lnL f n) := ⟨_, rfl⟩
  rw [← hmr] at hcall
  have HM := Lib.hid hmr
  clear hx hB hl hw1 hmr hn6
  cases mr with
  | false =>
    have HZ := Lib.hid (show cntO d r s f n = 0 by rw [cntO, ← HM.out]; rfl)
    go_enter Try.func19, Try.ntmps19
    go_wp2_with (fail)
    rw [← HW.out]
    refine hcall.mono ?_
    rintro e w2 ⟨rfl, hb⟩
    have HB2 := Lib.hid (HB.out.trans (hb.mono HB.out.size))
    clear hb hcall
    go_wp2_with (fail)
    go_ret
    exact ⟨by rw [HZ.out]; rfl, HB2.out⟩
  | true =>
    have HF := Lib.hid (mr_few HM.out.symm)
    have HZ := Lib.hid (cnt_is HM.out.symm)
    have n56 := HF.out.2.1.l2
    go_enter Try.func19, Try.ntmps19
    go_wp2_with (fail)
    rw [← HW.out]
    refine hcall.mono ?_
    rintro e w2 ⟨rfl, hb⟩
    have HB2 := Lib.hid (HB.out.trans (hb.mono HB.out.size))
    have HL2 := Lib.hid (HL.out.next hb)
    clear hb hcall
    go_wp2_with (fail)
    go_loopw [5, 7, 17] (fun v5 v7 v17 wr => ∃ i : Nat, i ≤ n ∧ v17 = .int .i64 i ∧ v5 = .int .i64 ((n + 3 + needN (ndF' f) i : Nat) : Int) ∧ Below w2.heap.size w2 wr) (fun v5 v7 v17 _ => n - (RowKit.intOf v17).toNat)
    case atStart => exact ⟨0, by omega, rfl, by show _ = Value.int .i64 ((n + 3 + 0 : Nat) : Int); congr 1, Below.refl _ _⟩
    case round =>
      obtain ⟨i, hi, rfl, rfl, hb⟩ := hrel
      have HBr := Lib.hid hb
      have HLr := Lib.hid (HL2.out.next hb)
      obtain ⟨t, ht⟩ : ∃ t : Nat, t = n + 3 + needN (ndF' f) i := ⟨_, rfl⟩
      have hnl := need_le (f := ndF' f) (K := i) (fun j hj => HF.out.2.2 j (by omega))
      have ht9 : t ≤ 1000000 := by omega
      rw [← ht]
      have HT := Lib.hid ht
      clear hb hnl ht
      by_cases hlt : i < n
      · have k1 : (i : Int) < (n : Int) := by omega
        obtain ⟨b, off, rfl, hbl, hc⟩ : ∃ b off, a = some ⟨b, off, none⟩ ∧ b < wr.heap.size ∧ ∀ i, i < n → NwIn wr b (off + i * 5) (f i) := by
          rcases HLr.out with h | h
          · omega
          · exact h
        have hin := hc i hlt
        have hks := HF.out.2.2 i hlt
        have hTS : n + 3 + needN (ndF' f) (i + 1) = t + (kp (f i).ks (f i).ks.length).length := by
          rw [needN, HT.out, ← Nat.add_assoc]
          rfl
        have hk2 := kp_le (f i).ks (f i).ks.length
        obtain ⟨x, hx⟩ : ∃ x, x = f i := ⟨_, rfl⟩
        rw [← hx] at hin hks hTS hk2
        have hxl := hin.ins.len
        have hp := pt_len hks
        obtain ⟨m, hm⟩ : ∃ m : Nat, m = (kp x.ks x.ks.length).length := ⟨_, rfl⟩
        rw [← hm] at hp hTS hk2
        rw [hxl] at hp
        have hm9 : m ≤ 1656 := by omega
        have hthl := ths_len x.ks x.n
        have HTL := Lib.hid (show (ths x.ks x.n).length ≤ 828 by omega)
        have HP := Lib.hid hp
        have HTS := Lib.hid hTS
        have HXL := Lib.hid (show x.n ≤ 828 by omega)
        have c0 := hin.c0
        have c1 := hin.c1
        have c2 := hin.c2
        have c3 := hin.c3
        have c4 := hin.c4
        obtain ⟨wx, hwx⟩ : ∃ wx, wx = wr.alloc (.cells #[.int .i64 x.ino, .int .i64 x.kind, .int .i64 x.links, .int .i64 x.size, .slice x.a x.n x.c] 83 (0, 0)) := ⟨_, rfl⟩
        have hbx : Below wr.heap.size wr wx := by rw [hwx]; exact (Below.refl _ _).alloc (Nat.le_refl _) _
        have HINS := Lib.hid (hin.ins.next hbx)
        have HWX := Lib.hid hwx
        have HBX := Lib.hid hbx
        clear hin hc hx hks hTS hk2 hp hm hxl hthl hwx hbx
        go_wp2_with (fail)
        rw [← HWX.out]
        refine (pthereA_any x.a x.n x.c x.ks wx HINS.out (by have := HXL.out; omega)).mono ?_
        rintro e w3 ⟨a', c', rfl, hi3, hb3⟩
        have HI3 := Lib.hid hi3
        have HB3 := Lib.hid (HBX.out.trans (hb3.mono HBX.out.size))
        clear hi3 hb3 c0 c1 c2 c3 c4
        go_wp2_with (fail)
        refine (pointing_any a' _ c' _ w3 HI3.out (by have := HTL.out; omega)).mono ?_
        rintro e w4 ⟨rfl, hb4⟩
        have HB4 := Lib.hid (HB3.out.trans (hb4.mono HB3.out.size))
        clear hb4
        rw [HP.out]
        go_wp2_with (fail)
        go_roundw
        case rel => exact ⟨i + 1, by omega, by go_num, by rw [HTS.out]; go_num, HBr.out.trans (HB4.out.mono HBr.out.size)⟩
        case measure => simp [RowKit.intOf]; omega
      · have hin : i = n := by omega
        have k1 : ¬ (i : Int) < (n : Int) := by omega
        have HIN := Lib.hid hin
        clear hin hlt hi
        go_wp2_with (fail)
        go_ret
        exact ⟨by rw [HZ.out, ← HIN.out, HT.out, HIN.out]; rfl, HB2.out.trans (HBr.out.mono HB2.out.size)⟩

structure LyO (w wr : World) (K : Nat → Prop) (u : Value) (gs : List Bl) : Prop where
  out : OwB wr w.heap.size u gs
  lt : ∀ j, K j → w.heap.size ≤ j ∧ j < wr.heap.size
  uk : ∀ j, u.ownBlock = some j → ¬ K j
  dk : ∀ x, x ∈ gs → ∀ y, x.a = some y → ¬ K y.block
  bel : Below w.heap.size w wr
section
variable {w wr w' : World} {K K' : Nat → Prop} {u u' : Value} {gs zs : List Bl}
theorem LyO.next (h : LyO w wr K u gs) (hb : Below wr.heap.size wr w') : LyO w w' K u gs :=
  ⟨h.out.next hb, fun j e => ⟨(h.lt j e).1, Nat.lt_of_lt_of_le (h.lt j e).2 hb.size⟩, h.uk, h.dk, h.bel.trans (hb.mono h.bel.size)⟩
theorem LyO.box (h : LyO w wr K u gs) (hb : Below wr.heap.size wr w') {g : Nat} (h1 : wr.heap.size ≤ g) (h2 : g < w'.heap.size) (hk : ∀ j, K' j → K j ∨ j = g) : LyO w w' K' u gs := by
  refine ⟨h.out.next hb, ?_, ?_, ?_, h.bel.trans (hb.mono h.bel.size)⟩
  · intro j e
    rcases hk j e with e | e
    · exact ⟨(h.lt j e).1, Nat.lt_of_lt_of_le (h.lt j e).2 hb.size⟩
    · exact ⟨by have := h.bel.size; omega, by omega⟩
  · intro j e e1
    rcases hk j e1 with e2 | e2
    · exact h.uk j e e2
    · have := (World.ownsRow.lt h.out.row j e).2; omega
  · intro x hx y e e1
    rcases hk _ e1 with e2 | e2
    · exact h.dk x hx y e e2
    · have := (h.out.apart x hx y e).2; omega
theorem LyO.sub (h : LyO w wr K u gs) (hk : ∀ j, K' j → K j) : LyO w wr K' u gs := ⟨h.out, fun j e => h.lt j (hk j e), fun j e e2 => h.uk j e (hk j e2), fun x hx y e e2 => h.dk x hx y e (hk _ e2), h.bel⟩
theorem LyO.set {b : Nat} (h : LyO w wr K u gs) (ht : Turn (· = b) wr w') (hb : K b) : LyO w w' K u gs :=
  ⟨h.out.turn ht (fun j e e2 => h.uk j e (by rw [e2]; exact hb)) (fun x hx y e e2 => h.dk x hx y e (by rw [e2]; exact hb)), fun j e => ⟨(h.lt j e).1, Nat.lt_of_lt_of_le (h.lt j e).2 ht.size⟩, h.uk, h.dk, h.bel.trans (ht.below h.bel.size (fun j e => by rw [e]; exact (h.lt b hb).1))⟩
theorem LyO.app (h : LyO w wr K u gs) (hO : OwB w' w.heap.size u' (gs ++ zs)) (hG : wr.grownBy w' u.ownBlock) (hu : u'.ownBlock = u.ownBlock ∨ u'.ownBlock = some wr.heap.size) (hz : ∀ z, z ∈ zs → ∀ y, z.a = some y → ¬ K y.block) : LyO w w' K u' (gs ++ zs) := by
  have ht : Turn (fun j => u.ownBlock = some j) wr w' := Turn.of_grown hG (fun b e => e)
  refine ⟨hO, fun j e => ⟨(h.lt j e).1, Nat.lt_of_lt_of_le (h.lt j e).2 ht.size⟩, fun j e e2 => ?_, fun x hx y e => ?_, h.bel.trans (ht.below h.bel.size (fun j e => (World.ownsRow.lt h.out.row j e).1))⟩
  · rcases hu with e3 | e3
    · exact h.uk j (by rw [← e3]; exact e) e2
    · rw [e3] at e
      simp only [Option.some.injEq] at e
      have := (h.lt j e2).2
      omega
  · rcases List.mem_append.1 hx with h1 | h1
    · exact h.dk x h1 y e
    · exact hz x h1 y e
end
section
variable {w wr w' : World} {M : Nat → Prop} {u u' : Value} {gs zs : List Bl} {bw bc b9 b10 bd : Nat} {p : Value} {ch F : Nat → Int} {x : Nw} {D : List Int}
end

/-- A layout: the addresses, the blocks laid; K: the boxes that are not to be touched by others. -/
structure PlO (w0 w : World) (K : Nat → Prop) (g : Nat) (a : Option Addr) (n c : Nat) (ks : List Int) (u : Value) (gs : List Bl) : Prop where
  o : LyO w0 w K u gs
  kg : K g
  row : w.heap[g]? = some (.cells #[.slice a n c, u] 89 (0, 0))
  ad : Ins w0 a n ks
/-- What a call of the layout's turns. -/
def Lv (g : Nat) (u : Value) (j : Nat) : Prop := j = g ∨ u.ownBlock = some j
section
variable {w0 w w' : World} {K K' : Nat → Prop} {g : Nat} {a : Option Addr} {n c : Nat} {ks : List Int} {u u' : Value} {gs zs : List Bl}
theorem PlO.next (h : PlO w0 w K g a n c ks u gs) (hb : Below w.heap.size w w') : PlO w0 w' K g a n c ks u gs :=
  ⟨h.o.next hb, h.kg, (hb.block _ (lt_of_block h.row)).trans h.row, h.ad⟩
theorem PlO.box (h : PlO w0 w K g a n c ks u gs) (hb : Below w.heap.size w w') {j : Nat} (h1 : w.heap.size ≤ j) (h2 : j < w'.heap.size) (hk : ∀ i, K' i → K i ∨ i = j) (hg : K' g) : PlO w0 w' K' g a n c ks u gs :=
  ⟨h.o.box hb h1 h2 hk, hg, (hb.block _ (lt_of_block h.row)).trans h.row, h.ad⟩
theorem PlO.sub (h : PlO w0 w K g a n c ks u gs) (hk : ∀ j, K' j → K j) (hg : K' g) : PlO w0 w K' g a n c ks u gs := ⟨h.o.sub hk, hg, h.row, h.ad⟩
theorem PlO.set {b : Nat} (h : PlO w0 w K g a n c ks u gs) (ht : Turn (· = b) w w') (hb : K b) (hne : b ≠ g) : PlO w0 w' K g a n c ks u gs :=
  ⟨h.o.set ht hb, h.kg, (ht.block _ (lt_of_block h.row) (fun e => hne e.symm)).trans h.row, h.ad⟩
theorem PlO.drew (h : PlO w0 w K g a n c ks u gs) : PlO w0 w.drew K g a n c ks u gs := h.next (below_drewN (Below.refl _ _) 1)
theorem PlO.ins (h : PlO w0 w K g a n c ks u gs) : Ins w a n ks := h.ad.next h.o.bel
theorem PlO.cells (h : PlO w0 w K g a n c ks u gs) : w.cell? ⟨g, 0, none⟩ = some (.slice a n c) ∧ w.cell? ⟨g, 1, none⟩ = some u ∧ w.frozen? ⟨g, 1, none⟩ = false ∧ g < w.heap.size := by
  refine ⟨?_, ?_, frozen_of_row w g 1 _ _ h.row, lt_of_block h.row⟩
  · rw [cell_of_row w g 0 _ _ (0, 0) h.row]; rfl
  · rw [cell_of_row w g 1 _ _ (0, 0) h.row]; rfl
theorem PlO.form (h : PlO w0 w K g a n c ks u gs) : ∃ au cu, u = .slice au gs.length cu := by
  obtain ⟨au, cu, e, _⟩ := h.o.out.bls
  exact ⟨au, cu, e⟩
/-- Another box isn't turned. -/
theorem PlO.off (h : PlO w0 w K g a n c ks u gs) {j : Nat} (hj : K j) (hne : j ≠ g) : ¬ Lv g u j := by
  rintro (e | e)
  · exact hne e
  · exact h.o.uk j e hj
/-- A block is laid. -/
theorem PlO.grow (h : PlO w0 w K g a n c ks u gs) (hO : OwB w' w0.heap.size u' (gs ++ zs)) (hG : w.grownBy w' u.ownBlock) (hu : u'.ownBlock = u.ownBlock ∨ u'.ownBlock = some w.heap.size) (hz : ∀ z, z ∈ zs → ∀ y, z.a = some y → ¬ K y.block) :
    (w'.cell? ⟨g, 1, none⟩ = some u ∧ w'.frozen? ⟨g, 1, none⟩ = false ∧ g < w'.heap.size) ∧ PlO w0 (w'.setCell ⟨g, 1, none⟩ u') K g a n c ks u' (gs ++ zs) ∧ Turn (Lv g u) w (w'.setCell ⟨g, 1, none⟩ u') := by
  have ht : Turn (fun j => u.ownBlock = some j) w w' := Turn.of_grown hG (fun b e => e)
  have hg : ¬ u.ownBlock = some g := fun e => h.o.uk g e h.kg
  have hrow := (ht.block g (lt_of_block h.row) hg).trans h.row
  have h2 := h.o.app hO hG hu hz
  have ht2 : Turn (· = g) w' (w'.setCell ⟨g, 1, none⟩ u') := Turn.setCell (M := (· = g)) (a := ⟨g, 1, none⟩) w' rfl _
  refine ⟨⟨?_, frozen_of_row w' g 1 _ _ hrow, lt_of_block hrow⟩, ⟨h2.set ht2 h.kg, h.kg, ?_, h.ad⟩, (ht.mono fun j e => .inr e).trans (ht2.mono fun j e => .inl e)⟩
  · rw [cell_of_row w' g 1 _ _ (0, 0) hrow]; rfl
  · rw [heap_setCell_same w' g 1 _ _ _ hrow]; rfl
end
/-- What a laying leaves: the blocks zs more. -/
def LyP (w0 w : World) (K : Nat → Prop) (g : Nat) (a : Option Addr) (n c : Nat) (ks : List Int) (u : Value) (gs : List Bl) (r : Int) (zs : List Bk) (e : Ending) (w' : World) : Prop :=
  ∃ u' gs', e = .returned (.int .i64 r) ∧ PlO w0 w' K g a n c ks u' gs' ∧ gs'.map Bl.bk = gs.map Bl.bk ++ zs ∧ Turn (Lv g u) w w' ∧ (∀ j, u'.ownBlock = some j → u.ownBlock = some j ∨ w.heap.size ≤ j)
/-- As LyP, the block by itself. -/
def LyQ (w0 w : World) (K : Nat → Prop) (g : Nat) (a : Option Addr) (n c : Nat) (ks : List Int) (u : Value) (gs : List Bl) (r : Int) (z : Bl) (e : Ending) (w' : World) : Prop :=
  ∃ u', e = .returned (.int .i64 r) ∧ PlO w0 w' K g a n c ks u' (gs ++ [z]) ∧ Turn (Lv g u) w w' ∧ (∀ j, u'.ownBlock = some j → u.ownBlock = some j ∨ w.heap.size ≤ j)
theorem play_eq {w0 w : World} {K : Nat → Prop} {g : Nat} {a : Option Addr} {n c : Nat} {ks : List Int} {u : Value} {gs : List Bl} (h : PlO w0 w K g a n c ks u gs) (z : Bl) (hp : Pin w z.a z.n z.c z.z) (hz : ∀ y, z.a = some y → u.ownBlock ≠ some y.block ∧ y.block < w.heap.size ∧ ¬ K y.block) (hlen : gs.length < n) (hs : gs.length ≤ 100000) :
    Calls Try.prog 51 #[.pointer (some ⟨g, 0, none⟩), .int .i64 z.own, .int .i64 z.ind, .slice z.a z.n z.c] w (LyQ w0 w K g a n c ks u gs (num ks gs.length) z) := by
  obtain ⟨au, cu, rfl⟩ := h.form
  have H := Lib.hid h
  have HP := Lib.hid hp
  have HZ := Lib.hid hz
  have HS := Lib.hid hs
  obtain ⟨b, off, rfl, hlt, hcs⟩ := h.ins.at (by omega)
  have x3 := hcs gs.length hlen
  obtain ⟨zz, hzz⟩ : ∃ zz, zz = num ks gs.length := ⟨_, rfl⟩
  rw [← hzz] at x3 ⊢
  have x1 := h.cells.1
  have x2 := h.cells.2.1
  have k0 : (gs.length : Int) < (n : Int) := by omega
  have k1 : (0 : Int) ≤ (gs.length : Int) := by omega
  clear h hp hz hs hcs hzz hlt hlen
  obtain ⟨gl, hgl⟩ : ∃ gl, gl = gs.length := ⟨_, rfl⟩
  rw [← hgl] at H HZ x2 x3 k0 k1 HS ⊢
  have HGL := Lib.hid hgl
  clear hgl
  go_enter Try.func51, Try.ntmps51
  go_upto_region 1 with fail
  refine wp_region_held_drew (S := (fun w' => w'.cell? ⟨g, 0, none⟩ = some (.slice (some ⟨b, off, none⟩) n c) ∧ w'.cell? ⟨g, 1, none⟩ = some (.slice au gl cu) ∧ w'.cell? ⟨b, off + gl, none⟩ = some (.int .i64 zz))) (by kernel_rfl) ⟨x1, x2, x3⟩ (fun hHeld => ?_)
  refine wpAnyH_take (i := 0) (v := ?_) rfl (by kernel_rfl) (by kernel_rfl) (by kernel_rfl) (fun _ _ _ h => h) (Or.inl ⟨by rfl, fun w hSw => ?_⟩) (by assumption) ?_
  rotate_left
  · (try dsimp only at hSw); go_simp; try with_reducible rfl
  simp only [Act.put, List.setIfInBounds_toArray, List.set_cons_zero, List.set_cons_succ, List.getElem_toArray, List.getElem_cons_zero]
  refine wpAnyH_take (i := 1) (v := ?_) rfl (by kernel_rfl) (by kernel_rfl) (by kernel_rfl) (fun _ _ _ h => h) (Or.inl ⟨by rfl, fun w hSw => ?_⟩) (by assumption) ?_
  rotate_left
  · (try dsimp only at hSw); go_simp; try with_reducible rfl
  simp only [Act.put, List.setIfInBounds_toArray, List.set_cons_zero, List.set_cons_succ, List.getElem_toArray, List.getElem_cons_succ, List.getElem_cons_zero]
  refine wpAnyH_take (i := 2) (v := ?_) rfl (by kernel_rfl) (by kernel_rfl) (by kernel_rfl) (fun _ _ _ h => h) (Or.inl ⟨by rfl, fun w hSw => ?_⟩) (by assumption) ?_
  rotate_left
  · (try dsimp only at hSw); go_simp; try with_reducible rfl
  simp only [Act.put, List.setIfInBounds_toArray, List.set_cons_zero, List.set_cons_succ, List.getElem_toArray, List.getElem_cons_succ, List.getElem_cons_zero]
  refine wpAnyH_take (i := 3) (v := ?_) rfl (by kernel_rfl) (by kernel_rfl) (by kernel_rfl) (fun _ _ _ h => h) (Or.inl ⟨by rfl, fun w hSw => ?_⟩) (by assumption) ?_
  rotate_left
  · (try dsimp only at hSw); go_simp; try with_reducible rfl
  simp only [Act.put, List.setIfInBounds_toArray, List.set_cons_zero, List.set_cons_succ, List.getElem_toArray, List.getElem_cons_succ, List.getElem_cons_zero]
  refine wpAnyH_take (i := 4) (v := ?_) rfl (by kernel_rfl) (by kernel_rfl) (by kernel_rfl) (fun _ _ _ h => h) (Or.inl ⟨by rfl, fun w hSw => ?_⟩) (by assumption) ?_
  rotate_left
  · (try dsimp only at hSw); go_simp; try with_reducible rfl
  simp only [Act.put, List.setIfInBounds_toArray, List.set_cons_zero, List.set_cons_succ, List.getElem_toArray, List.getElem_cons_succ, List.getElem_cons_zero]
  refine wpAnyH_take (i := 5) (v := ?_) rfl (by kernel_rfl) (by kernel_rfl) (by kernel_rfl) (fun _ _ _ h => h) (Or.inl ⟨by rfl, fun w hSw => ?_⟩) (by assumption) ?_
  rotate_left
  · (try dsimp only at hSw); go_simp; try with_reducible rfl
  simp only [Act.put, List.setIfInBounds_toArray, List.set_cons_zero, List.set_cons_succ, List.getElem_toArray, List.getElem_cons_succ, List.getElem_cons_zero]
  refine wpAnyH_take (i := 6) (v := ?_) rfl (by kernel_rfl) (by kernel_rfl) (by kernel_rfl) (fun _ _ _ h => h) (Or.inl ⟨by rfl, fun w hSw => ?_⟩) (by assumption) ?_
  rotate_left
  · (try dsimp only at hSw); go_simp; try with_reducible rfl
  simp only [Act.put, List.setIfInBounds_toArray, List.set_cons_zero, List.set_cons_succ, List.getElem_toArray, List.getElem_cons_succ, List.getElem_cons_zero]
  refine wpAnyH_take (i := 7) (v := ?_) rfl (by kernel_rfl) (by kernel_rfl) (by kernel_rfl) (fun _ _ _ h => h) (Or.inl ⟨by rfl, fun w hSw => ?_⟩) (by assumption) ?_
  rotate_left
  · (try dsimp only at hSw); go_simp; try with_reducible rfl
  simp only [Act.put, List.setIfInBounds_toArray, List.set_cons_zero, List.set_cons_succ, List.getElem_toArray, List.getElem_cons_succ, List.getElem_cons_zero]
  refine wpAnyH_take (i := 8) (v := ?_) rfl (by kernel_rfl) (by kernel_rfl) (by kernel_rfl) (fun _ _ _ h => h) (Or.inl ⟨by rfl, fun w hSw => ?_⟩) (by assumption) ?_
  rotate_left
  · (try dsimp only at hSw); go_simp; try with_reducible rfl
  simp only [Act.put, List.setIfInBounds_toArray, List.set_cons_zero, List.set_cons_succ, List.getElem_toArray, List.getElem_cons_succ, List.getElem_cons_zero]
  refine wpAnyH_take (i := 9) (v := ?_) rfl (by kernel_rfl) (by kernel_rfl) (by kernel_rfl) (fun _ _ _ h => h) (Or.inl ⟨by rfl, fun w hSw => ?_⟩) (by assumption) ?_
  rotate_left
  · (try dsimp only at hSw); go_simp; try with_reducible rfl
  simp only [Act.put, List.setIfInBounds_toArray, List.set_cons_zero, List.set_cons_succ, List.getElem_toArray, List.getElem_cons_succ, List.getElem_cons_zero]
  refine wpAnyH_take (i := 10) (v := ?_) rfl (by kernel_rfl) (by kernel_rfl) (by kernel_rfl) (fun _ _ _ h => h) (Or.inl ⟨by rfl, fun w hSw => ?_⟩) (by assumption) ?_
  rotate_left
  · (try dsimp only at hSw); go_simp; try with_reducible rfl
  simp only [Act.put, List.setIfInBounds_toArray, List.set_cons_zero, List.set_cons_succ, List.getElem_toArray, List.getElem_cons_succ, List.getElem_cons_zero]
  refine wpAnyH_take (i := 11) (v := ?_) rfl (by kernel_rfl) (by kernel_rfl) (by kernel_rfl) (fun _ _ _ h => h) (Or.inl ⟨by rfl, fun w hSw => ?_⟩) (by assumption) ?_
  rotate_left
  · (try dsimp only at hSw); go_simp; try with_reducible rfl
  simp only [Act.put, List.setIfInBounds_toArray, List.set_cons_zero, List.set_cons_succ, List.getElem_toArray, List.getElem_cons_succ, List.getElem_cons_zero]
  refine wpAnyH_done (by kernel_rfl) ?_ _
  have HD := Lib.hid H.out.drew
  have hbx : Below w.drew.heap.size w.drew (w.drew.alloc (.cells #[.int .i64 z.own, .int .i64 z.ind, .slice z.a z.n z.c] 52)) := (Below.refl _ _).alloc (Nat.le_refl _) _
  have HX := Lib.hid (HD.out.next hbx)
  have HPX := Lib.hid (show ∀ z', z' ∈ [z] → Pin (w.drew.alloc (.cells #[.int .i64 z.own, .int .i64 z.ind, .slice z.a z.n z.c] 52)) z'.a z'.n z'.c z'.z from fun z' h' => by
    rw [List.mem_singleton.1 h']
    exact (HP.out.next (below_drewN (Below.refl _ _) 1)).next hbx)
  have HZX := Lib.hid (show ∀ z', z' ∈ [z] → ∀ y, z'.a = some y → (Value.slice au gl cu).ownBlock ≠ some y.block ∧ y.block < (w.drew.alloc (.cells #[.int .i64 z.own, .int .i64 z.ind, .slice z.a z.n z.c] 52)).heap.size from fun z' h' y e => by
    rw [List.mem_singleton.1 h'] at e
    exact ⟨(HZ.out y e).1, Nat.lt_of_lt_of_le (HZ.out y e).2.1 hbx.size⟩)
  have HKX := Lib.hid (show ∀ z', z' ∈ [z] → ∀ y, z'.a = some y → ¬ K y.block from fun z' h' y e => by
    rw [List.mem_singleton.1 h'] at e
    exact (HZ.out y e).2.2)
  have HGX := Lib.hid (show (w.drew.alloc (.cells #[.int .i64 z.own, .int .i64 z.ind, .slice z.a z.n z.c] 52)).heap[w.drew.heap.size]? = some (.cells (blL [z]).toArray 52 (0, 0)) from heap_alloc_new w.drew _)
  have HTX := Lib.hid (show Turn (Lv g (.slice au gl cu)) w (w.drew.alloc (.cells #[.int .i64 z.own, .int .i64 z.ind, .slice z.a z.n z.c] 52)) from (Turn.of_below (below_drewN (Below.refl _ _) 1)).trans (Turn.of_below hbx))
  have HBX := Lib.hid (show w.heap.size ≤ (w.drew.alloc (.cells #[.int .i64 z.own, .int .i64 z.ind, .slice z.a z.n z.c] 52)).heap.size from hbx.size)
  clear hbx x1 x2 x3
  have y1 := HD.out.cells.2.1
  have y2 := HD.out.cells.2.2.2
  go_wp2_with (at_builtin; go_must (refine wpList_apB rfl (.tmp 25) (.tmp 30) rfl w0.heap.size _ gs rfl HX.out.o.out w.drew.heap.size [z] 1 rfl rfl HPX.out HZX.out HGX.out (by have := HS.out; have := HGL.out; omega) HX.out.o.bel.size ?_); intro v5 w5 hO5 hG5 hv5; obtain ⟨⟨c4n, f4n, ltn⟩, hR6, hT6⟩ := HX.out.grow hO5 hG5 hv5 HKX.out; obtain ⟨a5, c5n, rfl⟩ := hR6.form; obtain ⟨m5, hm5⟩ : ∃ m, m = (gs ++ [z]).length := ⟨_, rfl⟩; rw [← hm5] at hR6 hT6 hv5 ⊢; clear hm5; have HR6 := Lib.hid hR6; have HT6 := Lib.hid hT6; have HV := Lib.hid hv5; clear hR6 hT6 hO5 hG5 hv5 y1 y2)
  go_ret
  refine ⟨_, rfl, HR6.out, HTX.out.trans HT6.out, fun j hj => ?_⟩
  rcases HV.out with e | e
  · exact .inl (e.symm.trans hj)
  · refine .inr ?_
    rw [e] at hj
    have h2 := Option.some.inj hj
    rw [← h2]
    exact HBX.out
theorem play_any {w0 w : World} {K : Nat → Prop} {g : Nat} {a : Option Addr} {n c : Nat} {ks : List Int} {u : Value} {gs : List Bl} (h : PlO w0 w K g a n c ks u gs) (z : Bl) (hp : Pin w z.a z.n z.c z.z) (hz : ∀ y, z.a = some y → u.ownBlock ≠ some y.block ∧ y.block < w.heap.size ∧ ¬ K y.block) (hlen : gs.length < n) (hs : gs.length ≤ 100000) :
    Calls Try.prog 51 #[.pointer (some ⟨g, 0, none⟩), .int .i64 z.own, .int .i64 z.ind, .slice z.a z.n z.c] w (LyP w0 w K g a n c ks u gs (num ks gs.length) [z.bk]) :=
  (play_eq h z hp hz hlen hs).mono fun e w' ⟨u', he, h1, h2, h3⟩ => ⟨u', _, he, h1, by rw [List.map_append]; rfl, h2, h3⟩

section
variable {w wr w' : World} {u u' : Value} {gs zs : List Bl} {bw bc b9 b10 : Nat} {p : Value} {ch F : Nat → Int} {x : Nw}
end
/-- The record, when k of its own pointers are laid. -/
def rD (n : Nd) (k : Nat) : Nat → Int := fun j => if j < 3 then rK n j else if j < 3 + k then num n.ads (j - 3) else 0
theorem rD_zero (n : Nd) : rK n = rD n 0 := by
  funext j
  unfold rD rK
  by_cases h : j < 3
  · rw [if_pos h]
  · rw [if_neg h, if_neg (by omega), if_neg (by omega), if_neg (by omega), if_neg (by omega)]
theorem ppF_tb {g : Nat → Int} (h : ∀ i, i < 28 → 0 ≤ g i ∧ g i ≤ 65535) : ppF (tb g) = ppL (tb g) := by
  have e : ppO (tb g) = true := by
    rw [ppO, Bool.and_eq_true, decide_eq_true_eq, List.all_eq_true]
    refine ⟨by rw [tb_len]; exact Nat.le_refl _, fun z hz => ?_⟩
    unfold tb at hz
    obtain ⟨i, hi, rfl⟩ := List.mem_map.1 hz
    have := h i (List.mem_range.1 hi)
    simp [ptO, this.1, this.2]
  rw [ppF, if_pos e]
theorem sB_le (n : Nd) : (sB n).length ≤ 1 := by unfold sB; split <;> simp
theorem dB_le (n : Nd) (k : Nat) : (dB n k).length ≤ k := by
  induction k with
  | zero => exact Nat.le_refl _
  | succ k ih => rw [dB, List.length_append]; split <;> simp <;> omega
theorem dL_le (at' : Nat → Int) (n : Nd) (m : Nat) : (dL at' n m).length ≤ 1 := by unfold dL; split <;> simp
theorem lB_le (at' : Nat → Int) (f : Nat → Nd) (i : Nat) : (lB at' f i).length ≤ 31 * i := by
  induction i with
  | zero => exact Nat.le_refl _
  | succ i ih =>
    have h1 := sB_le (f i)
    have h2 := dB_le (f i) 28
    have h3 := dL_le at' (f i) (lB at' f i).length
    rw [lB, ndB, bod]
    simp only [List.length_append, List.length_cons, List.length_nil]
    omega
theorem rF_make (at' : Nat → Int) (n : Nd) (m : Nat) : upd (upd (rD n 16) 19 (if sS n.ads then at' m else 0)) 20 (if dA n then at' (m + dI n 28) else 0) = rF at' n m := by
  funext j
  unfold upd rD rF rK
  by_cases h20 : j = 20
  · subst h20; simp
  by_cases h19 : j = 19
  · subst h19; simp
  rw [if_neg h20, if_neg h19]
  by_cases h3 : j < 3
  · rw [if_pos h3]
    rcases (by omega : j = 0 ∨ j = 1 ∨ j = 2) with rfl | rfl | rfl <;> rfl
  · rw [if_neg h3, if_neg (by omega : ¬ j = 0), if_neg (by omega : ¬ j = 1), if_neg (by omega : ¬ j = 2)]
    by_cases h4 : j < 19
    · rw [if_pos (by omega), if_pos h4]
    · rw [if_neg (by omega), if_neg h4, if_neg h19, if_neg h20]
theorem rF_rgt {N : Int} {at' : Nat → Int} {n : Nd} {m : Nat} (hr : NdR N n) (hN : N ≤ 65535) (ht : ∀ i, 0 ≤ at' i ∧ at' i ≤ 65535) : RgR (rF at' n m) := by
  have h0 := rgO_iff.1 hr.r
  have hk : (n.kind = 1 ∨ n.kind = 2) := h0.kind
  have h1 : 1 ≤ n.links := h0.l1
  have h2 : n.links ≤ 65535 := h0.l2
  have h3 : 0 ≤ n.size := h0.s0
  have h4 : n.size ≤ 46368 := h0.s1
  have hl := hr.l
  refine ⟨by rw [rF_0]; exact hk, by rw [rF_1]; exact h1, by rw [rF_1]; exact h2, by rw [rF_2]; exact h3, by rw [rF_2]; exact h4, fun i hi => ?_⟩
  rw [atO, rF_2]
  by_cases h16 : i < 16
  · rw [rF_d h16]
    refine at_yes (hr.pt hN i) ?_
    by_cases hz : num n.ads i = 0
    · exact .inl hz
    · have : i < n.ads.length := by
        by_cases hi2 : i < n.ads.length
        · exact hi2
        · exact absurd (num_out (by omega)) hz
      rw [ftI, if_neg (by omega), if_neg (by omega)]
      exact .inr (by omega)
  · rcases (by omega : i = 16 ∨ i = 17) with rfl | rfl
    · rw [show 3 + 16 = 19 from rfl, rF_19]
      by_cases hs : sS n.ads = true
      · have hb := ht m
        have := prt_far hs
        rw [if_pos hs]
        exact at_yes (by omega) (.inr (by rw [show ftI 16 = 16 from rfl]; omega))
      · rw [if_neg hs]
        exact at_yes (by omega) (.inl rfl)
    · rw [show 3 + 17 = 20 from rfl, rF_20]
      by_cases hs : dA n = true
      · have hb := ht (m + dI n 28)
        obtain ⟨k, hk1, hk2⟩ := dA_iff.1 hs
        have := prt_far hk2
        rw [if_pos hs]
        exact at_yes (by omega) (.inr (by rw [show ftI 17 = 44 from rfl]; omega))
      · rw [if_neg hs]
        exact at_yes (by omega) (.inl rfl)
end Go.Proofs.Ytegcjpocdfmpfaa
