/-
  What ScanFinds' walk wants of memory: rows of the call's own while a rack is written; the two blocks that it writes; the summaries.
-/
import Derived.Test.YtegmeoghonolcaaGreatFpa
import Derived.Test.YtegmeoghonolcaaGreatGsa
import Derived.Test.YtegmeoghonolcaaGreatOpm
import Derived.Test.YtegmeoghonolcaaGreatBkc
set_option linter.unusedSimpArgs false
set_option linter.unusedVariables false
namespace Go.Proofs.YtegmeoghonolcaaGreat
open Go.RowKit
set_option linter.unusedVariables false

theorem ownsRow_turn {w w' : World} {M : Nat → Prop} {B k : Nat} {t : TypeId} {v : Value} {n : Nat} {xs : List Value} (h : w.ownsRow B t k v n xs) (ht : Turn M w w') (hM : ∀ g, B ≤ g → g < w.heap.size → ¬ M g) : w'.ownsRow B t k v n xs := by
  refine ⟨h.1, ?_⟩
  rcases h.2 with h0 | ⟨g, cap, cur, a, b, c, d⟩
  · exact .inl h0
  · refine .inr ⟨g, cap, cur, a, b, ?_, d⟩
    rw [ht.block g (lt_of_block c) (hM g b (lt_of_block c))]
    exact c
theorem OwnI.turnM {w w' : World} {M : Nat → Prop} {B : Nat} {v : Value} {n : Nat} {ks : List Int} (h : OwnI w B v n ks) (ht : Turn M w w') (hM : ∀ g, B ≤ g → g < w.heap.size → ¬ M g) : OwnI w' B v n ks := ownsRow_turn h ht hM
theorem OwnG.turnM {w w' : World} {M : Nat → Prop} {B : Nat} {v : Value} {n : Nat} {F : List Gc} (h : OwnG w B v n F) (ht : Turn M w w') (hM : ∀ g, B ≤ g → g < w.heap.size → ¬ M g) : OwnG w' B v n F :=
  ⟨ownsRow_turn h.row ht hM, fun x hx => (h.each x hx).turnM ht hM, h.apart⟩

/-- The blocks that are written: a summary, and one byte. -/
def fF (g y : Nat) (zs : List Int) (z : Int) : Nat → BlP := fun j => if j = 0 then ⟨65535, 0, ⟨some ⟨g, 0, none⟩, 56, 56, zs⟩⟩ else ⟨1, 0, ⟨some ⟨y, 0, none⟩, 1, 1, [z]⟩⟩
theorem pinF_one {w : World} {g : Nat} {z : Int} (h0 : 0 ≤ z) (h1 : z ≤ 255) (hl : g < w.heap.size) (hc : w.cell? ⟨g, 0, none⟩ = some (.int .u8 z)) : Pin w (some ⟨g, 0, none⟩) 1 1 [z] := by
  refine ⟨⟨rfl, fun x hx => by rw [List.mem_singleton.1 hx]; exact ⟨h0, h1⟩, .inr ⟨g, 0, rfl, hl, fun i hi => ?_⟩⟩, fun h => (by cases h), Nat.le_refl _, by omega⟩
  obtain rfl : i = 0 := by omega
  exact hc
theorem fF_bls {w W : World} {g y : Nat} {zs : List Int} {z : Int} {t : TypeId} (hp : Pin w (some ⟨g, 0, none⟩) 56 56 zs) (h0 : 0 ≤ z) (h1 : z ≤ 255) (hy : y < w.heap.size) (hc : w.cell? ⟨y, 0, none⟩ = some (.int .u8 z))
    (h : W = w.alloc (.cells #[.int .i64 65535, .int .i64 0, .slice (some ⟨g, 0, none⟩) 56 56, .int .i64 1, .int .i64 0, .slice (some ⟨y, 0, none⟩) 1 1] t (0, 0))) :
    Bls W (some ⟨w.heap.size, 0, none⟩) 2 (fF g y zs z) ∧ Below w.heap.size w W := by
  have hb : Below w.heap.size w W := by rw [h]; exact (Below.refl _ _).alloc (Nat.le_refl _) _
  have d5 := (hb.cell (p := ⟨y, 0, none⟩) hy).trans hc
  have hl : w.heap.size < W.heap.size := by rw [h]; simp
  refine ⟨⟨.inr ⟨w.heap.size, 0, rfl, hl, fun j hj => ?_⟩, fun j hj => ?_⟩, hb⟩
  · rcases (by omega : j = 0 ∨ j = 1) with rfl | rfl
    · rw [h]; refine ⟨?_, ?_, ?_⟩ <;> simp [fF]
    · rw [h]; refine ⟨?_, ?_, ?_⟩ <;> simp [fF]
  · rcases (by omega : j = 0 ∨ j = 1) with rfl | rfl
    · exact hp.next hb
    · exact pinF_one h0 h1 (Nat.lt_of_lt_of_le hy hb.size) d5
theorem fF_enc {w : World} {a : Option Addr} {g y : Nat} {zs : List Int} {z q : Int} (hb : Bls w a 2 (fF g y zs z)) (q0 : 0 ≤ q) (q1 : q < 4294967296) : encB q (fF g y zs z) 2 6 = true := by
  refine fit_enc hb ?_ q0 q1
  unfold fitO fitU fitU fitU fit1 fF
  simp
theorem fF_small {g y : Nat} {zs : List Int} {z : Int} (hz : AllB zs) (h0 : 0 ≤ z) (h1 : z ≤ 255) : ∀ j, j < 2 → AllB (fF g y zs z j).p.zs := fun j hj => by
  unfold fF
  split
  · exact hz
  · intro x hx; rw [List.mem_singleton.1 hx]; exact ⟨h0, h1⟩
theorem fF_at {g y : Nat} {zs : List Int} {z : Int} : (blkAt (fF g y zs z) 2 0).o = 65535 ∧ (blkAt (fF g y zs z) 2 0).i = 0 ∧ (blkAt (fF g y zs z) 2 0).p.zs = zs := by
  unfold blkAt fF
  exact ⟨rfl, rfl, rfl⟩
theorem infF_sum {n g : Nat} {q r : Int} {k : Nat} (hk : k < n) (hn : n ≤ 2) (r1 : 1 ≤ r) (r2 : r ≤ 60) : SumR 3 3 12 (infF n g q r k).c (infF n g q r k).i (infF n g q r k).b (infF n g q r k).r := by
  have hpl : PL 3 3 = 5 := by decide
  refine ⟨rt_small, ?_, ?_, ?_, ?_, ?_, ?_, ?_⟩
  · show (1 : Int) ≤ (n : Int); omega
  · show (n : Int) ≤ 12; omega
  · show (0 : Int) ≤ (k : Int); omega
  · show (k : Int) < (n : Int); omega
  · show (0 : Int) ≤ 0; omega
  · rw [hpl]; show (0 : Int) ≤ 5; omega
  · unfold rootO
    show (if (k : Int) = (n : Int) - 1 then decide (1 ≤ (if k + 1 = n then r else 0) ∧ (if k + 1 = n then r else 0) ≤ 12 * PL 3 3) else decide ((if k + 1 = n then r else 0) = 0)) = true
    rw [hpl]
    by_cases e : k + 1 = n
    · rw [if_pos (by omega), if_pos e]
      exact decide_eq_true ⟨r1, by omega⟩
    · rw [if_neg (by omega), if_neg e]
      rfl
theorem and_lowF (x : Int) (m : Nat) (hm : m < 256) : 0 ≤ bits .and .i64 x (m : Int) ∧ bits .and .i64 x (m : Int) ≤ m := by
  have h2 : (BitVec.ofInt 64 (m : Int)).toNat = m := by
    rw [BitVec.ofInt_natCast, BitVec.toNat_ofNat]; exact Nat.mod_eq_of_lt (by omega)
  have h : bits .and .i64 x (m : Int) = IntKind.i64.wrap ((BitVec.ofInt 64 x &&& BitVec.ofInt 64 (m : Int)).toNat : Int) := rfl
  have hle : (BitVec.ofInt 64 x).toNat &&& m ≤ m := Nat.and_le_right
  rw [h, BitVec.toNat_and, h2, IntKind.wrap_i64]
  omega
theorem andF (x : Int) (m : Nat) (hm : m < 256) : ∃ k : Nat, k ≤ m ∧ bits .and .i64 x (m : Int) = (k : Int) := by
  obtain ⟨a, b⟩ := and_lowF x m hm
  obtain ⟨k, hk⟩ := Int.eq_ofNat_of_zero_le a
  exact ⟨k, by have : (k : Int) ≤ m := hk ▸ b; omega, hk⟩
end Go.Proofs.YtegmeoghonolcaaGreat

/-
  A rack and its bank while rows of the call's own grow beside them, in place or anew.
-/
namespace Go.Proofs.YtegmeoghonolcaaGreat
open Go.RowKit Go.Maps
set_option linter.unusedVariables false
section
variable {w0 w w' : World} {M M' N : Nat → Prop} {L : Lay} {R : Rk} {B : Bn} {b : Nat}
theorem RackAt.grow (h : RackAt w M L R) (ht : Turn N w w') (hNM : ∀ k, N k → M k) (hN : ∀ k, L.M R.n k → ¬ N k) (hM : ∀ k, M' k → M k ∨ w.heap.size ≤ k) (hM2 : ∀ k, M k → M' k) (hlow : ∀ k, M' k → k < w'.heap.size) : RackAt w' M' L R := by
  have h' : ∀ i, i < R.n → DrvAt w M' R.S L.db (i * 4) (L.lb i) (L.mb i) (R.d i) := fun i hi => by
    have hd := h.drv i hi
    obtain ⟨n, D, hc⟩ := hd.cache
    exact ⟨hd.c0, hd.c1, hd.c2, hd.c3, hd.blk, hd.len, hd.small, ⟨n, D, hc.wide hM⟩, hd.big⟩
  obtain ⟨cs, hcs⟩ := h.rows
  exact ⟨(ht.block _ h.ltp (hN _ (L.M_p _))).trans h.row, ⟨cs, (ht.block _ h.ltd (hN _ (L.M_db _))).trans hcs⟩, fun i hi => (h' i hi).turn ht (fun k x => hM2 k (hNM k x)) (hN _ (L.M_db _)) (hN _ (L.M_lb hi)) (hN _ (L.M_mb hi)), h.apart, fun k hk => hM2 k (h.sub k hk), hlow, h.few, h.fewS, h.big⟩
theorem St.grow (h : St w0 M L b R B w) (ht : Turn N w w') (hNM : ∀ k, N k → M k) (hN : ∀ k, L.M R.n k → ¬ N k) (hNb : ¬ N b) (hM : ∀ k, M' k → M k ∨ w.heap.size ≤ k) (hM2 : ∀ k, M k → M' k) (hlow : ∀ k, M' k → k < w'.heap.size) : St w0 M' L b R B w' := by
  have hbs := h.bel.size
  refine ⟨h.rk.grow ht hNM hN hM hM2 hlow, h.bk.turn ht hNb, hM2 b h.mb, h.nb, fun k hk => ?_, h.bel.trans (ht.below h.bel.size (fun k hk => h.lo k (hNM k hk)))⟩
  rcases hM k hk with h1 | h1
  · exact h.lo k h1
  · omega
/-- New blocks, which may turn from here on. -/
theorem St.wide (h : St w0 M L b R B w) (hb : Below w.heap.size w w') (hN : ∀ k, N k → w.heap.size ≤ k ∧ k < w'.heap.size) : St w0 (also M N) L b R B w' :=
  h.grow (N := fun _ => False) (Turn.of_below hb) (fun _ x => x.elim) (fun _ _ x => x) (fun x => x) (fun _ x => x.elim .inl fun y => .inr (hN _ y).1) (fun _ x => .inl x) (fun k x => x.elim (fun y => Nat.lt_of_lt_of_le (h.rk.low k y) hb.size) fun y => (hN _ y).2)
/-- A block that may turn is stored to. -/
theorem St.poke (h : St w0 M L b R B w) {g i : Nat} (hg : M g) (hL : ¬ L.M R.n g) (hb : g ≠ b) (u : Value) : St w0 M L b R B (w.setCell ⟨g, i, none⟩ u) :=
  h.grow (N := (· = g)) (turn_set w g i u) (fun _ e => e ▸ hg) (fun _ hk e => hL (e ▸ hk)) (fun e => hb e.symm) (fun _ x => .inl x) (fun _ x => x) (fun k x => by simpa using h.rk.low k x)
/-- A row grows: in place, or in a new block. -/
theorem St.row (h : St w0 M L b R B w) {r : Option Nat} {g' : Nat} (hg : w.grownBy w' r) (hr : ∀ g, r = some g → M g ∧ ¬ L.M R.n g ∧ g ≠ b) (hat : r = some g' ∨ w.heap.size ≤ g') (hlt : g' < w'.heap.size) : St w0 (also M (· = g')) L b R B w' := by
  have ht : Turn (fun k => r = some k) w w' := ⟨hg.os, hg.tape, hg.output, hg.size, fun i hi hn => hg.block i hi (fun e => hn e.symm)⟩
  refine h.grow ht (fun k hk => (hr k hk).1) (fun k hk hk' => (hr k hk').2.1 hk) (fun x => (hr b x).2.2 rfl) (fun k hk => ?_) (fun _ x => .inl x) (fun k hk => ?_)
  · rcases hk with hk | rfl
    · exact .inl hk
    · rcases hat with h1 | h1
      · exact .inl (hr _ h1).1
      · exact .inr h1
  · rcases hk with hk | rfl
    · exact Nat.lt_of_lt_of_le (h.rk.low k hk) hg.size
    · exact hlt
end
theorem Turn.trans' {w0 w w' : World} {N : Nat → Prop} {r : Option Nat} (h : Turn N w0 w) (hg : w.grownBy w' r) (hr : ∀ g, r = some g → w0.heap.size ≤ g) : Turn N w0 w' :=
  ⟨hg.os.trans h.os, hg.tape.trans h.tape, hg.output.trans h.output, Nat.le_trans h.size hg.size, fun k hk hn => (hg.block k (Nat.lt_of_lt_of_le hk h.size) (fun e => by have := hr k e.symm; omega)).trans (h.block k hk hn)⟩
/-- 'append(gs, g)' of one group: where the row lies is told, too. -/
theorem wpList_apgF {w : World} {ops : Array Oper} {rest : List Oper} {o : Oper} {a : Act} {Q : Exit → Act → World → Prop} (hgd : o.guard = none) (s x : Operand)
    (ho : o.op = .call { callee := .builtin .append, args := #[s, x], argTypes := #[61, 61] })
    (B : Nat) (v : Value) (n : Nat) (F : List Gc) (hs : a.eval s = v) (hown : OwnG w B v n F) (g : Nat) (z : Gc) (hx : a.eval x = .slice (some ⟨g, 0, none⟩) 1 1) (hg : ∀ j u, (gcc z)[j]? = some u → w.cell? ⟨g, j, none⟩ = some u)
    (hz : OwnI w B (.slice z.a z.n z.c) z.n z.s) (hza : ∀ g, (Value.slice z.a z.n z.c).ownBlock = some g → v.ownBlock ≠ some g)
    (hn : n + 1 ≤ 1000000000000) (hB : B ≤ w.heap.size)
    (h : ∀ g' cap w', OwnG w' B (.slice (some ⟨g', 0, none⟩) (n + 1) cap) (n + 1) (F ++ [z]) → w.grownBy w' v.ownBlock → (v.ownBlock = some g' ∨ w.heap.size ≤ g') → g' < w'.heap.size → wpList Tryz.prog ops Q rest (a.put o.dst (.slice (some ⟨g', 0, none⟩) (n + 1) cap)) w') : wpList Tryz.prog ops Q (o :: rest) a w := by
  obtain ⟨i0, hi, hz0, hz1, hz2⟩ := info_parts infoGr
  refine wpList_append_lies (P := Tryz.prog) w hgd s x 61 ho B 63 i0 _ 3 40 Tryz.underlying61 hi hz0 hz1 hz2 rfl (by decide) v n _ hs hown.row ⟨g, 0, none⟩ 1 1 (gcc z) hx rfl ?_ (gcc_one z) (by decide) (by unfold maxLen; omega) (by omega) hB _ rfl ?_
  · intro j u hj
    rw [show (⟨g, 0, none⟩ : Addr).add j = ⟨g, j, none⟩ by unfold Addr.add; split <;> simp_all]
    exact hg j u hj
  · intro g' cap w' hown' hgrow hat hlt
    have hk : ∀ x : Gc, OwnI w B (.slice x.a x.n x.c) x.n x.s → (∀ g, (Value.slice x.a x.n x.c).ownBlock = some g → v.ownBlock ≠ some g) → OwnI w' B (.slice x.a x.n x.c) x.n x.s ∧ ∀ g, (Value.slice x.a x.n x.c).ownBlock = some g → (Value.slice (some ⟨g', 0, none⟩) (n + 1) cap).ownBlock ≠ some g := by
      intro x h1 h2
      refine ⟨World.ownsRow.kept h1 hgrow ?_, fun g0 hg0 e => ?_⟩
      · cases hv : (Value.slice x.a x.n x.c).ownBlock with
        | none => exact .inl rfl
        | some g0 => exact .inr fun e => h2 g0 hv e.symm
      · have e' : g' = g0 := by simpa [Value.ownBlock] using e
        subst e'
        have hl := (h1.lt g' hg0).2
        rcases hat with h3 | h3
        · exact h2 g' hg0 h3
        · omega
    refine h g' cap w' ⟨?_, ?_, ?_⟩ hgrow (hat.imp id fun e => by omega) hlt
    · rw [List.flatMap_append]
      simpa using hown'
    · intro x hx
      rcases List.mem_append.1 hx with h1 | h1
      · exact (hk x (hown.each x h1) (hown.apart x h1)).1
      · rw [List.mem_singleton.1 h1]; exact (hk z hz hza).1
    · intro x hx
      rcases List.mem_append.1 hx with h1 | h1
      · exact (hk x (hown.each x h1) (hown.apart x h1)).2
      · rw [List.mem_singleton.1 h1]; exact (hk z hz hza).2
/-- 'append(s, x)' of one number, s of the call's own. -/
theorem wpList_apnF {w : World} {ops : Array Oper} {rest : List Oper} {o : Oper} {a : Act} {Q : Exit → Act → World → Prop} (hgd : o.guard = none) (s x : Operand)
    (ho : o.op = .call { callee := .builtin .append, args := #[s, x], argTypes := #[36, 36] })
    (B : Nat) (v : Value) (n : Nat) (ks : List Int) (hs : a.eval s = v) (hown : OwnI w B v n ks) (g : Nat) (z : Int) (hx : a.eval x = .slice (some ⟨g, 0, none⟩) 1 1) (hg : w.cell? ⟨g, 0, none⟩ = some (.int .i64 z))
    (hn : n + 1 ≤ 1000000000000) (hB : B ≤ w.heap.size)
    (h : ∀ g' cap w', OwnI w' B (.slice (some ⟨g', 0, none⟩) (n + 1) cap) (n + 1) (ks ++ [z]) → w.grownBy w' v.ownBlock → (v.ownBlock = some g' ∨ g' = w.heap.size) → wpList Tryz.prog ops Q rest (a.put o.dst (.slice (some ⟨g', 0, none⟩) (n + 1) cap)) w') : wpList Tryz.prog ops Q (o :: rest) a w := by
  obtain ⟨i0, hi, hz0, hz1, hz2⟩ := info_parts info3
  refine wpList_append_lies (P := Tryz.prog) w hgd s x 36 ho B 3 i0 (.int .i64 0) 1 8 Tryz.underlying36 hi hz0 hz1 hz2 rfl (by decide) v n _ hs hown ⟨g, 0, none⟩ 1 1 [.int .i64 z] hx rfl ?_ ?_ (by decide) (by unfold maxLen; omega) (by omega) hB _ rfl ?_
  · intro j u hj
    cases j with
    | zero =>
      simp at hj
      subst hj
      exact hg
    | succ j => simp at hj
  · intro u hu
    rw [List.mem_singleton.1 hu]
    rfl
  · intro g' cap w' hown' hgrow hat hlt
    refine h g' cap w' ?_ hgrow hat
    unfold OwnI
    rw [List.map_append]
    exact hown'
theorem grown_at {w w' : World} {row : Option Nat} (hg : w.grownBy w' row) {b j : Nat} {v : Value} (hc : w.cell? ⟨b, j, none⟩ = some v) (hf : w.frozen? ⟨b, j, none⟩ = false) (hl : b < w.heap.size) (hne : (some b : Option Nat) ≠ row) :
    w'.cell? ⟨b, j, none⟩ = some v ∧ w'.frozen? ⟨b, j, none⟩ = false ∧ b < w'.heap.size := by
  have hb := hg.block b hl hne
  refine ⟨?_, ?_, Nat.lt_of_lt_of_le hl hg.size⟩
  · rw [← hc]; unfold World.cell?; rw [hb]
  · rw [← hf]; unfold World.frozen?; rw [hb]
end Go.Proofs.YtegmeoghonolcaaGreat

/-
  What stands at ScanFinds' two loops, and how each call moves it on.
-/
namespace Go.Proofs.YtegmeoghonolcaaGreat
open Go.RowKit Go.Maps
set_option linter.unusedVariables false

/-- What stands at the outer loop. -/
structure FnO (w0 : World) (L : Lay) (b B1 : Nat) (q0 : Int) (Ks : List Kb) (Gs : List Gr) (F : List Gc) (i : Nat) (wt : Value) (M : Nat → Prop) (R : Rk) (C : Nat → Nat → List Int) (w : World) : Prop where
  st : St w0 M L b R B0 w
  vd : Vd R 4 41 noD noD C
  wr : Wtn C q0 (flatB Ks)
  row : RowF Ks Gs i q0
  own : OwnG w B1 wt i F
  grs : F.map Gc.gr = Gs
  lB : ∀ k, L.M 4 k → k < B1
  bB : b < B1
  hB : B1 ≤ w.heap.size
  wM : ∀ g, wt.ownBlock = some g → M g
theorem ownG_lit (w : World) (B : Nat) (hB : B ≤ w.heap.size) : OwnG (w.alloc (.cells #[] 63)) B (.slice (some ⟨w.heap.size, 0, none⟩) 0 0) 0 [] :=
  ⟨World.ownsRow_lit w #[] 0 hB (Nat.zero_le _) rfl, (fun x hx => by cases hx), (fun x hx => by cases hx)⟩
theorem openF_ok : openOk (newRk 4 41) 3 3 12 0 0 = true := by
  rw [openOk_small rfl rfl]
  unfold memOk
  decide
/-- .. at its start. -/
theorem FnO.zero {w0 w : World} {M : Nat → Prop} {L : Lay} {b : Nat} (q0 : Int) (h : St w0 M L b (newRk 4 41) B0 w) : FnO w0 L b w.heap.size q0 [] [] [] 0 (.slice (some ⟨w.heap.size, 0, none⟩) 0 0) (also M (· = w.heap.size)) (newRk 4 41) (fun _ _ => List.replicate 64 0) (w.alloc (.cells #[] 63)) := by
  have hb : Below w.heap.size w (w.alloc (.cells #[] 63)) := (Below.refl _ _).alloc (Nat.le_refl _) _
  refine ⟨h.wide hb (fun k hk => by subst hk; simp), Vd.start, Wtn.zero q0, RowF.zero q0, ownG_lit _ _ (Nat.le_refl _), rfl, fun k hk => h.rk.low k (h.rk.sub k hk), h.rk.low b h.mb, hb.size, fun g hg => .inr ?_⟩
  have : w.heap.size = g := by simpa [Value.ownBlock] using hg
  exact this.symm

/-- What stands at the inner loop: kw segments of the group are written, ks of them are in its row. -/
structure FnI (w0 : World) (L : Lay) (b B1 : Nat) (q0 : Int) (Ks : List Kb) (wt : Value) (nn N : Nat) (r : Int) (bx kw ks : Nat) (v : Value) (M : Nat → Prop) (R : Rk) (C : Nat → Nat → List Int) (W0 w : World) : Prop where
  st : St w0 M L b R B0 w
  vd : Vd R 4 41 noD noD C
  wr : Wtn C q0 (flatB Ks ++ blkF nn N (q0 + (N : Int)) r kw)
  gx : Gx w bx (q0 + (N : Int)) r v
  own : OwnI w (bx + 1) v ks (segF ks N)
  tn : Turn (L.M 4) W0 w
  bx0 : bx = W0.heap.size
  bM : M bx
  vM : ∀ g, v.ownBlock = some g → M g
  wM : ∀ g, wt.ownBlock = some g → M g
  hB : B1 ≤ bx
  lB : ∀ k, L.M 4 k → k < B1
  bB : b < B1
section
variable {w0 w w' W0 : World} {M : Nat → Prop} {L : Lay} {b B1 i bx kw ks nn N : Nat} {q0 r : Int} {Ks : List Kb} {Gs : List Gr} {F : List Gc} {wt v : Value} {R R' : Rk} {C : Nat → Nat → List Int}
theorem FnO.start (h : FnO w0 L b B1 q0 Ks Gs F i wt M R C W0) (hN : N = (flatB Ks).length) (nn : Nat) (r : Int) (t : TypeId) :
    FnI w0 L b B1 q0 Ks wt nn N r W0.heap.size 0 0 (.slice none 0 0) (also M (· = W0.heap.size)) R C W0 (W0.alloc (.cells #[.int .i64 (q0 + (N : Int)), .int .i64 r, .slice none 0 0] t (0, 0))) := by
  have hb : Below W0.heap.size W0 (W0.alloc (.cells #[.int .i64 (q0 + (N : Int)), .int .i64 r, .slice none 0 0] t (0, 0))) := (Below.refl _ _).alloc (Nat.le_refl _) _
  refine ⟨h.st.wide hb (fun k hk => by subst hk; simp), h.vd, ?_, Gx.mk' _ _ _ _ _, World.ownsRow_nil _ _ _ _, Turn.of_below hb, rfl, .inr rfl, (fun g hg => by cases hg), fun g hg => .inl (h.wM g hg), h.hB, h.lB, h.bB⟩
  have : blkF nn N (q0 + (N : Int)) r 0 = [] := rfl
  rw [this, List.append_nil]
  exact h.wr
theorem FnI.next (h : FnI w0 L b B1 q0 Ks wt nn N r bx kw ks v M R C W0 w) (hb : Below w.heap.size w w') : FnI w0 L b B1 q0 Ks wt nn N r bx kw ks v M R C W0 w' :=
  ⟨h.st.next hb, h.vd, h.wr, h.gx.next hb, h.own.turnM (M := fun _ => False) (Turn.of_below hb) (fun _ _ _ x => x), h.tn.trans (Turn.of_below hb), h.bx0, h.bM, h.vM, h.wM, h.hB, h.lB, h.bB⟩
/-- A segment is written. -/
theorem FnI.write (h : FnI w0 L b B1 q0 Ks wt nn N r bx kw ks v M R C W0 w) (hN : N = (flatB Ks).length) (hk : kw < nn) (hnn : nn ≤ 2) (hN10 : N ≤ 10) (h1 : 1 ≤ q0) (h2 : q0 ≤ 1048576) (r1 : 1 ≤ r) (r2 : r ≤ 60) {fb : Nat → BlP}
    (he : encB (q0 + ((N + kw : Nat) : Int)) fb 2 6 = true) (hbb : ∀ j, j < 2 → AllB (fb j).p.zs) (ho : (blkAt fb 2 0).o = 65535) (hi : (blkAt fb 2 0).i = 0)
    (hp : (blkAt fb 2 0).p.zs = sumL (nn : Int) (kw : Int) 0 (if kw + 1 = nn then r else 0)) {e : Ending}
    (hpo : StPost w0 M L b (wrR B0 R 3 3 ((N + kw : Nat) : Int) (q0 + ((N + kw : Nat) : Int)) fb 2) B0 w (.int .i64 (wrE B0 R 3 3 ((N + kw : Nat) : Int) (q0 + ((N + kw : Nat) : Int)) fb 2)) e w') :
    e = .returned (.int .i64 0) ∧ ∃ R' C', FnI w0 L b B1 q0 Ks wt nn N r bx (kw + 1) ks v M R' C' W0 w' := by
  obtain ⟨rfl, hst, ht⟩ := hpo
  rw [wrR_n, h.vd.hn] at ht
  have hlen : (flatB Ks ++ blkF nn N (q0 + (N : Int)) r kw).length = N + kw := by rw [List.length_append, blkF_len, hN]
  have hc : cntB noD ≤ 1 := by decide
  obtain ⟨e0, hvd⟩ := h.vd.write (B := B0) ⟨rfl, rfl, rfl⟩ rfl hc (g := N + kw) (by omega) (q := q0 + ((N + kw : Nat) : Int)) (fb := fb) (nb := 2) (by omega) (by omega) he hbb
  rw [e0]
  have hx : infF nn N (q0 + (N : Int)) r kw = ⟨((N + kw : Nat) : Int), q0 + ((N + kw : Nat) : Int), nn, kw, 0, if kw + 1 = nn then r else 0⟩ := by
    unfold infF
    congr 1 <;> omega
  have hw := h.wr.next (x := infF nn N (q0 + (N : Int)) r kw) (fb := fb) (nb := 2) (by omega) (by rw [hlen, hx]) (by rw [hlen, hx]) (infF_sum hk hnn r1 r2) (by rw [hx]; exact he) hbb ho hi hp
  rw [hlen, List.append_assoc, ← blkF_succ, hx] at hw
  have hB1 := h.hB
  refine ⟨rfl, _, _, hst, hvd, hw, ?_, h.own.turnM ht (fun g hg _ x => by have := h.lB g x; omega), h.tn.trans ht, h.bx0, h.bM, h.vM, h.wM, h.hB, h.lB, h.bB⟩
  have hbx := h.gx.lt
  have hnb : ¬ L.M 4 bx := fun x => by have := h.lB bx x; omega
  have hc := fun j => ht.cell (a := ⟨bx, j, none⟩) hbx hnb
  have hf := fun j => ht.frozen (a := ⟨bx, j, none⟩) hbx hnb
  exact ⟨Nat.lt_of_lt_of_le hbx ht.size, (hc 0).trans h.gx.c0, (hc 1).trans h.gx.c1, (hc 2).trans h.gx.c2, (hf 0).trans h.gx.f0, (hf 1).trans h.gx.f1, (hf 2).trans h.gx.f2⟩
/-- Its number is put into the group's row. -/
theorem FnI.seg (h : FnI w0 L b B1 q0 Ks wt nn N r bx kw ks v M R C W0 w) {g' cap : Nat} (ho : OwnI w' (bx + 1) (.slice (some ⟨g', 0, none⟩) (ks + 1) cap) (ks + 1) (segF ks N ++ [((N : Int) + ks)])) (hg : w.grownBy w' v.ownBlock) (hat : v.ownBlock = some g' ∨ w.heap.size ≤ g') :
    FnI w0 L b B1 q0 Ks wt nn N r bx kw (ks + 1) (.slice (some ⟨g', 0, none⟩) (ks + 1) cap) (also M (· = g')) R C W0 (w'.setCell ⟨bx, 2, none⟩ (.slice (some ⟨g', 0, none⟩) (ks + 1) cap)) := by
  have hlt : g' < w'.heap.size := (ho.lt g' rfl).2
  have hB1 := h.hB
  have hbx0 := h.bx0
  have hbB := h.bB
  have hv : ∀ g, v.ownBlock = some g → bx + 1 ≤ g := fun g hg => (h.own.lt g hg).1
  have hR : R.n = 4 := h.vd.hn
  have hL : ∀ g, bx ≤ g → ¬ L.M R.n g := fun g hg x => by rw [hR] at x; have := h.lB g x; omega
  have hst := h.st.row hg (g' := g') (fun g hg => ⟨h.vM g hg, hL g (by have := hv g hg; omega), by have := hv g hg; omega⟩) hat hlt
  have hne : (some bx : Option Nat) ≠ v.ownBlock := fun e => by have := hv bx e.symm; omega
  have hgx : Gx w' bx (q0 + (N : Int)) r v := by
    have hb := hg.block bx h.gx.lt hne
    have hc : ∀ j, w'.cell? ⟨bx, j, none⟩ = w.cell? ⟨bx, j, none⟩ := fun j => by
      unfold World.cell?
      rw [hb]
    have hf : ∀ j, w'.frozen? ⟨bx, j, none⟩ = w.frozen? ⟨bx, j, none⟩ := fun j => by
      unfold World.frozen?
      rw [hb]
    exact ⟨Nat.lt_of_lt_of_le h.gx.lt hg.size, (hc 0).trans h.gx.c0, (hc 1).trans h.gx.c1, (hc 2).trans h.gx.c2, (hf 0).trans h.gx.f0, (hf 1).trans h.gx.f1, (hf 2).trans h.gx.f2⟩
  have htn : Turn (L.M 4) W0 w' := h.tn.trans' hg (fun g hg => by have := hv g hg; omega)
  refine ⟨hst.poke (.inl h.bM) (hL bx (Nat.le_refl _)) (by omega) _, h.vd, h.wr, hgx.set _, ?_, htn.off (by omega) _, h.bx0, .inl h.bM, fun g hg => .inr ?_, fun g hg => .inl (h.wM g hg), h.hB, h.lB, h.bB⟩
  · have := (ho.setLow (p := ⟨bx, 2, none⟩) (Nat.lt_succ_self _) (.slice (some ⟨g', 0, none⟩) (ks + 1) cap))
    rw [segF_succ]
    exact this
  · have : g' = g := by simpa [Value.ownBlock] using hg
    exact this.symm
/-- The group is whole: what its append wants. -/
theorem FnI.rows (h : FnI w0 L b B1 q0 Ks wt nn N r bx kw ks v M R C W0 w) {M0 : Nat → Prop} {R0 : Rk} {C0 : Nat → Nat → List Int} (ho : FnO w0 L b B1 q0 Ks Gs F i wt M0 R0 C0 W0) :
    ∃ a c, v = .slice a ks c ∧ OwnG w B1 wt i F ∧ OwnI w B1 (.slice a ks c) ks (segF ks N) ∧ ∀ g, (Value.slice a ks c).ownBlock = some g → wt.ownBlock ≠ some g := by
  obtain ⟨a, c, rfl, _, _, _, _⟩ := h.own.ins
  have hB := h.hB
  have h0 := h.bx0
  refine ⟨a, c, rfl, ho.own.turnM h.tn (fun g hg _ x => by have := h.lB g x; omega), h.own.lower (by omega), fun g hg e => ?_⟩
  have h1 := (h.own.lt g hg).1
  have h2 := (ho.own.row.lt g e).2
  omega
theorem FnI.done (h : FnI w0 L b B1 q0 Ks wt nn N r bx nn nn v M R C W0 w) {M0 : Nat → Prop} {R0 : Rk} {C0 : Nat → Nat → List Int} (ho : FnO w0 L b B1 q0 Ks Gs F i wt M0 R0 C0 W0) (hN : N = (flatB Ks).length) (hn : 0 < nn) (hn2 : nn ≤ 2) (hi : i < 100) (h1 : 0 ≤ q0)
    {g' cap c : Nat} {a : Option Addr} (hown : OwnG w' B1 (.slice (some ⟨g', 0, none⟩) (i + 1) cap) (i + 1) (F ++ [⟨q0 + (N : Int), r, a, nn, c, segF nn N⟩])) (hg : w.grownBy w' wt.ownBlock) (hat : wt.ownBlock = some g' ∨ w.heap.size ≤ g') (hlt : g' < w'.heap.size) :
    FnO w0 L b B1 q0 (Ks ++ [kbF nn N (q0 + (N : Int)) r]) (Gs ++ [⟨q0 + (N : Int), r, segF nn N⟩]) (F ++ [⟨q0 + (N : Int), r, a, nn, c, segF nn N⟩]) (i + 1) (.slice (some ⟨g', 0, none⟩) (i + 1) cap) (also M (· = g')) R C w' ∧ (flatB (Ks ++ [kbF nn N (q0 + (N : Int)) r])).length = N + nn := by
  have hbB := h.bB
  have hR : R.n = 4 := h.vd.hn
  have hw : ∀ g, wt.ownBlock = some g → B1 ≤ g := fun g hg => (ho.own.row.lt g hg).1
  have hfl : flatB (Ks ++ [kbF nn N (q0 + (N : Int)) r]) = flatB Ks ++ blkF nn N (q0 + (N : Int)) r nn := by rw [flatF_append, flatF_one]; rfl
  have hr := ho.row.next (n := nn) (r := r) h1 hi hn hn2
  rw [← hN] at hr
  refine ⟨⟨h.st.row hg (fun g hg => ⟨h.wM g hg, fun x => by rw [hR] at x; have := h.lB g x; have := hw g hg; omega, by have := hw g hg; omega⟩) hat hlt, h.vd, ?_, hr, hown, ?_, h.lB, h.bB, ?_, fun g hg => .inr ?_⟩, ?_⟩
  · rw [hfl]; exact h.wr
  · rw [List.map_append, ho.grs]; rfl
  · have := h.hB
    have := h.gx.lt
    have := hg.size
    omega
  · have : g' = g := by simpa [Value.ownBlock] using hg
    exact this.symm
  · rw [hfl, List.length_append, blkF_len, hN]
end
end Go.Proofs.YtegmeoghonolcaaGreat
