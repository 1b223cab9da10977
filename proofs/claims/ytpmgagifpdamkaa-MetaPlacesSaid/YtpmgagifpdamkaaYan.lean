/-
  The program's trimmed, by contract.
-/
import Derived.Test.YtpmgagifpdamkaaYam
import Derived.Test.YtpmgagifpdamkaaYac
set_option linter.unusedVariables false
set_option linter.unusedSimpArgs false
set_option maxRecDepth 100000
set_option maxHeartbeats 16000000
namespace Go.Proofs.Ytpmgagifpdamkaa
open Go.RowKit

/-- Numbers that are new. -/
def TrP (w : World) (l : List Int) (e : Ending) (w' : World) : Prop := ∃ a' c', e = .returned (.slice a' l.length c') ∧ Ins w' a' l.length l ∧ (a' = none → l.length = 0 ∧ c' = 0) ∧ (∀ x, a' = some x → w.heap.size ≤ x.block ∧ x.block < w'.heap.size) ∧ Below w.heap.size w w'
theorem pcloneI_any (p : Addr) (n c : Nat) (ks : List Int) (w : World) (h : Ins w (some p) n ks) (hn : n ≤ 1000000) :
    Calls Try.prog 109 #[.slice (some p) n c] w (TrP w ks) := by
  have hxa := h.alloc (.cells #[] 3)
  have hl := h.len
  have hq : ∀ (w : World), (binOp .eql 25 (.slice (some p) n c) (.slice none 0 0)).run Try.prog w = .ok (.bool false) w := fun w => Lib.run_eql_slice_nil w _ _ _ _ _ _ _ Try.underlying25
  have HX := Lib.hid hxa
  have HL := Lib.hid hl
  clear h hxa hl
  go_enter Try.func109, Try.ntmps109
  go_wp2_with (at_builtin; go_must (refine wpList_apx rfl (.tmp 5) (.tmp 6) rfl w.heap.size (some p) n c ks rfl rfl (heap_alloc_new w _) HX.out (fun e => by cases e) (by omega) w.heap.size (Nat.le_refl _) w ((Below.refl _ _).alloc (Nat.le_refl _) _) ?_); intro a' c' w1 h1 hn1 h2 hb1; have H1 := Lib.hid h1; have HN1 := Lib.hid hn1; have H2 := Lib.hid h2; have HB1 := Lib.hid hb1; clear h1 hn1 h2 hb1)
  go_ret
  exact ⟨a', c', by rw [HL.out]; rfl, by rw [HL.out]; exact H1.out, by rw [HL.out]; exact HN1.out, H2.out, HB1.out⟩
theorem lst_at {A : List Int} {k m : Nat} (hk : k ≤ m) (h : ∀ i, k ≤ i → i < m → num A i = 0) (h2 : k = 0 ∨ num A (k - 1) ≠ 0) : lst A m = k := by
  induction m with
  | zero => rw [show k = 0 by omega]; rfl
  | succ m ih =>
    by_cases e : k = m + 1
    · subst e
      rcases h2 with h2 | h2
      · omega
      · rw [lst, if_neg (by simpa using h2)]
    · rw [lst, if_pos (h m (by omega) (by omega))]
      exact ih (by omega) (fun i h1 h3 => h i h1 (by omega))
theorem ptrim_any (p : Addr) (n c : Nat) (ks : List Int) (w : World) (h : Ins w (some p) n ks) (hnc : n ≤ c) (hn : n ≤ 828) :
    Calls Try.prog 105 #[.slice (some p) n c] w (TrP w (trm ks)) := by
  have HI := Lib.hid h
  have HL := Lib.hid h.len
  have HN := Lib.hid (And.intro hnc hn)
  clear h
  go_enter Try.func105, Try.ntmps105
  go_wp2_with (fail)
  go_loopw [3] (fun v3 wr => ∃ e : Nat, e ≤ n ∧ v3 = .int .i64 e ∧ (∀ j, e ≤ j → j < n → num ks j = 0) ∧ Below w.heap.size w wr) (fun v3 _ => (RowKit.intOf v3).toNat)
  case atStart => exact ⟨n, Nat.le_refl _, rfl, (fun j h1 h2 => by omega), Below.refl _ _⟩
  case round =>
    obtain ⟨e, he, rfl, hz, hwr⟩ := hrel
    have HBW := Lib.hid hwr
    have HIW := Lib.hid (HI.out.next hwr)
    clear hwr
    have HZ := Lib.hid hz
    clear hz
    by_cases h0 : e = 0
    · have k1 : ¬ (0 : Int) < (e : Int) := by omega
      obtain ⟨T, hT⟩ : ∃ T, T = ks.take e := ⟨_, rfl⟩
      have HT := Lib.hid (show trm ks = T by rw [hT, trm, HL.out, lst_at he HZ.out (.inl h0)])
      have k2 : (0 : Int) ≤ (e : Int) := by omega
      have k3 : (e : Int) ≤ (c : Int) := by omega
      have hcall := pcloneI_any p e c T wr (hT ▸ ⟨by rw [List.length_take, HL.out]; omega, by
        rcases HIW.out.place with h1 | ⟨b, off, ha, hlt, hc⟩
        · exact .inl (by omega)
        · exact .inr ⟨b, off, ha, hlt, fun i hi => by rw [num_take' hi]; exact hc i (by omega)⟩⟩) (by omega)
      clear h0 hT
      go_wp2_with (fail)
      refine hcall.mono ?_
      rintro e2 w2 ⟨a', c', rfl, h1, h2, h3, h4⟩
      have H := Lib.hid (And.intro h1 (And.intro h2 (And.intro h3 h4)))
      clear h1 h2 h3 h4 hcall
      go_wp2_with (fail)
      go_ret
      rw [HT.out]
      exact ⟨a', c', rfl, H.out.1, H.out.2.1, fun x e => ⟨Nat.le_trans HBW.out.size (H.out.2.2.1 x e).1, (H.out.2.2.1 x e).2⟩, HBW.out.trans (H.out.2.2.2.mono HBW.out.size)⟩
    · obtain ⟨m, hm⟩ : ∃ m, e = m + 1 := ⟨e - 1, by omega⟩
      have k1 : (0 : Int) < (e : Int) := by omega
      have v1 : IntKind.i64.wrap ((e : Int) - 1) = (m : Int) := by rw [show (e : Int) - 1 = (m : Int) by omega]; exact IntWalk.i64_in _ (by omega)
      obtain ⟨b, off, ha, hbl, hcs⟩ := HIW.out.at (by omega : 0 < n)
      cases ha
      have hc1 := hcs m (by omega)
      obtain ⟨z, hz⟩ : ∃ z, z = num ks m := ⟨_, rfl⟩
      rw [← hz] at hc1
      have HZZ := Lib.hid hz
      have HM := Lib.hid hm
      have km : (m : Int) < (n : Int) := by omega
      have hsm := pSome_any z wr
      clear hcs hz h0 hm
      by_cases ez : z = 0
      · have d0 : (z != 0) = false := by simp [ez]
        rw [d0] at hsm
        have HS := Lib.hid (show ∀ j, m ≤ j → j < n → num ks j = 0 from fun j h1 h2 => by
          by_cases e9 : j = m
          · subst e9; rw [← HZZ.out]; exact ez
          · exact HZ.out j (by have := HM.out; omega) h2)
        clear ez d0
        go_wp2_with (fail)
        refine hsm.mono ?_
        rintro e2 w2 ⟨rfl, rfl⟩
        clear hsm
        go_wp2_with (fail)
        go_roundw
        case rel => exact ⟨m, by have := HM.out; omega, rfl, HS.out, HBW.out⟩
        case measure => have := HM.out; simp [RowKit.intOf]; omega
      · have d0 : (z != 0) = true := by simp [ez]
        rw [d0] at hsm
        obtain ⟨T, hT⟩ : ∃ T, T = ks.take e := ⟨_, rfl⟩
        have HT := Lib.hid (show trm ks = T by rw [hT, trm, HL.out, lst_at he HZ.out (.inr (by rw [HM.out, Nat.add_sub_cancel, ← HZZ.out]; exact ez))])
        have k2 : (0 : Int) ≤ (e : Int) := by omega
        have k3 : (e : Int) ≤ (c : Int) := by omega
        have hcall := pcloneI_any ⟨b, off, none⟩ e c T wr (hT ▸ ⟨by rw [List.length_take, HL.out]; omega, by
          rcases HIW.out.place with h1 | ⟨b, off, ha, hlt, hc⟩
          · exact .inl (by omega)
          · exact .inr ⟨b, off, ha, hlt, fun i hi => by rw [num_take' hi]; exact hc i (by omega)⟩⟩) (by omega)
        clear ez d0 hT
        go_wp2_with (fail)
        refine hsm.mono ?_
        rintro e2 w2 ⟨rfl, rfl⟩
        clear hsm
        go_wp2_with (fail)
        refine hcall.mono ?_
        rintro e2 w2 ⟨a', c', rfl, h1, h2, h3, h4⟩
        have H := Lib.hid (And.intro h1 (And.intro h2 (And.intro h3 h4)))
        clear h1 h2 h3 h4 hcall
        go_wp2_with (fail)
        go_ret
        rw [HT.out]
        exact ⟨a', c', rfl, H.out.1, H.out.2.1, fun x e => ⟨Nat.le_trans HBW.out.size (H.out.2.2.1 x e).1, (H.out.2.2.1 x e).2⟩, HBW.out.trans (H.out.2.2.2.mono HBW.out.size)⟩

section
variable {α β γ : Type} {N : Int} {blk : Int → Option (List Int)}
theorem run_bindE {p : Rp α} {f : α → Rp β} {l : List Int} {e : Int} (h : run N blk p l = .error e) : run N blk (p.bind f) l = .error e := by
  rw [run_bind, h]
theorem run_bind2 (p : Rp α) (f : α → Rp β) (k : β → Rp γ) (l : List Int) : run N blk ((p.bind f).bind k) l = match run N blk p l with
    | .ok (a, l') => run N blk ((f a).bind k) l'
    | .error e => .error e := by
  rw [run_bind, run_bind]
  cases run N blk p l with
  | ok x =>
    obtain ⟨a, l'⟩ := x
    dsimp only
    rw [run_bind]
  | error e => rfl
theorem run_ok2 {p : Rp α} {f : α → Rp β} {k : β → Rp γ} {l l' : List Int} {a : α} (h : run N blk p l = .ok (a, l')) : run N blk ((p.bind f).bind k) l = run N blk ((f a).bind k) l' := by
  rw [run_bind2, h]
theorem run_err2 {p : Rp α} {f : α → Rp β} {k : β → Rp γ} {l : List Int} {e : Int} (h : run N blk p l = .error e) : run N blk ((p.bind f).bind k) l = .error e := by
  rw [run_bind2, h]
theorem run_rdP_len {q : Int} {l l' : List Int} {x : List Int × Bool} (h : run N blk (rdP q) l = .ok (x, l')) : l'.length ≤ l.length + 1 ∧ x.1.length = 28 := by
  unfold rdP at h
  split at h
  · rw [run] at h
    simp only [Except.ok.injEq, Prod.mk.injEq] at h
    rw [← h.2, ← h.1]
    exact ⟨by omega, tb_len _⟩
  · rw [run_rd2] at h
    cases hx : run N blk (.rd q .ret) l with
    | ok y =>
      obtain ⟨b, l2⟩ := y
      rw [hx] at h
      have h2 := run_rd_len hx
      dsimp only at h
      rw [run] at h
      simp only [Except.ok.injEq, Prod.mk.injEq] at h
      rw [← h.2, ← h.1, h2]
      exact ⟨by simp, gpL_len _ _⟩
    | error e => rw [hx] at h; cases h
end
/-- A node's reading behind its record; behind Single's block; behind Double's; behind all. -/
def ndK4 (N ino : Int) (b : List Int) (s : List Int × Bool) (q : List Int × Bool × Bool) : Rp (Nd × Bool) :=
  if q.2.2 || wrA N (blkN (tld b 2)) (dir (tld b) ++ s.1 ++ q.1) (dir (tld b) ++ s.1 ++ q.1).length then .bad 15
  else .ret (⟨ino, tld b 0, tld b 1, tld b 2, trm (dir (tld b) ++ s.1 ++ q.1)⟩, q.2.1)
def ndK3 (N ino : Int) (b : List Int) (s d : List Int × Bool) : Rp (Nd × Bool) := (ptP d.1 (blkN (tld b 2)) 28 0 [] (s.2 || d.2) false).bind (ndK4 N ino b s)
def ndK2 (N ino : Int) (b : List Int) (s : List Int × Bool) : Rp (Nd × Bool) := (rdP (tld b 20)).bind (ndK3 N ino b s)
def ndK1 (N ino : Int) (b : List Int) : Rp (Nd × Bool) := if okG b then (rdP (tld b 19)).bind (ndK2 N ino b) else .bad 15
theorem ndP_is (N ino p : Int) : ndP N ino p = .rd p (ndK1 N ino) := rfl
theorem ptP_succ (dbl : List Int) (nb : Int) {i : Nat} (hi : i < 28) (acc : List Int) (h wr : Bool) : ptP dbl nb (28 - i) i acc h wr = (rdP (num dbl i)).bind fun p => ptP dbl nb (28 - (i + 1)) (i + 1) (acc ++ p.1) (h || p.2) (wr || (num dbl i != 0 && decide (nb ≤ 44 + 28 * (i : Int)))) := by
  rw [show 28 - i = (28 - (i + 1)) + 1 by omega, ptP]
/-- Does one of the first i of Double's pointers tell too much? -/
def pbW (dbl : List Int) (nb : Int) : Nat → Bool
  | 0 => false
  | i + 1 => pbW dbl nb i || (num dbl i != 0 && decide (nb ≤ 44 + 28 * (i : Int)))
theorem pbW_iff {dbl : List Int} {nb : Int} {i : Nat} : pbW dbl nb i = true ↔ ∃ j, j < i ∧ num dbl j ≠ 0 ∧ nb ≤ 44 + 28 * (j : Int) := by
  induction i with
  | zero => simp [pbW]
  | succ i ih =>
    rw [pbW, Bool.or_eq_true, ih, Bool.and_eq_true, decide_eq_true_eq]
    constructor
    · rintro (⟨j, h1, h2, h3⟩ | ⟨h1, h2⟩)
      · exact ⟨j, by omega, h2, h3⟩
      · exact ⟨i, by omega, by simpa using h1, h2⟩
    · rintro ⟨j, h1, h2, h3⟩
      by_cases e : j = i
      · subst e; exact .inr ⟨by simpa using h2, h3⟩
      · exact .inl ⟨j, by omega, h2, h3⟩
theorem pbW_is {dbl : List Int} {nb : Nat} : pbW dbl (nb : Int) 28 = pbO (num dbl) nb := by
  rw [Bool.eq_iff_iff, pbW_iff, pbO_iff]
  constructor
  · rintro ⟨j, h1, h2, h3⟩; exact ⟨j, h1, h2, by omega⟩
  · rintro ⟨j, h1, h2, h3⟩; exact ⟨j, h1, h2, by omega⟩
theorem wrA_iff {N nb : Int} {A : List Int} {k : Nat} : wrA N nb A k = true ↔ ∃ j, j < k ∧ num A j ≠ 0 ∧ (isA N (num A j) = false ∨ nb ≤ (j : Int)) := by
  induction k with
  | zero => simp [wrA]
  | succ k ih =>
    rw [wrA, Bool.or_eq_true, ih, Bool.and_eq_true, Bool.or_eq_true, decide_eq_true_eq]
    constructor
    · rintro (⟨j, h1, h2, h3⟩ | ⟨h1, h2⟩)
      · exact ⟨j, by omega, h2, h3⟩
      · exact ⟨k, by omega, by simpa using h1, by simpa using h2⟩
    · rintro ⟨j, h1, h2, h3⟩
      by_cases e : j = k
      · subst e; exact .inr ⟨by simpa using h2, by simpa using h3⟩
      · exact .inl ⟨j, by omega, h2, h3⟩
theorem numE {L : List Int} {i : Nat} (h : i < L.length) : L[i] = num L i := by simp [num, List.getD, h]
/-- Is one of the first addresses none? -/
def bdO (N : Int) (A : List Int) (nb : Nat) : Bool := (A.take nb).any fun a => a != 0 && !isA N a
theorem bdO_iff {N : Int} {A : List Int} {nb : Nat} (h : nb ≤ A.length) : bdO N A nb = true ↔ ∃ j, j < nb ∧ num A j ≠ 0 ∧ isA N (num A j) = false := by
  unfold bdO
  rw [List.any_eq_true]
  constructor
  · rintro ⟨x, hx, h2⟩
    obtain ⟨i, hi, rfl⟩ := List.getElem_of_mem hx
    have hi' : i < nb := by rw [List.length_take] at hi; omega
    have e : (A.take nb)[i] = num A i := by
      rw [← num_take' (ks := A) hi']
      exact numE hi
    rw [e, Bool.and_eq_true] at h2
    exact ⟨i, hi', by simpa using h2.1, by simpa using h2.2⟩
  · rintro ⟨j, h1, h2, h3⟩
    have hj : j < (A.take nb).length := by rw [List.length_take]; omega
    refine ⟨(A.take nb)[j], List.getElem_mem hj, ?_⟩
    have e : (A.take nb)[j] = num A j := by
      rw [← num_take' (ks := A) h1]
      exact numE hj
    rw [e, Bool.and_eq_true]
    exact ⟨by simpa using h2, by simpa using h3⟩
/-- What is wrong with a node's addresses, as the program asks it. -/
theorem wr_is {N : Int} {A dbl : List Int} {nb : Nat} (hA : A.length = 828) (hn : nb ≤ 828) : (pbW dbl (nb : Int) 28 || wrA N (nb : Int) A A.length) = ((hbO (num A) nb || pbO (num dbl) nb) || bdO N A nb) := by
  rw [pbW_is]
  rw [Bool.eq_iff_iff]
  simp only [Bool.or_eq_true, wrA_iff, hbO_iff, bdO_iff (show nb ≤ A.length by omega)]
  constructor
  · rintro (h | ⟨j, h1, h2, h3⟩)
    · exact .inl (.inr h)
    · rcases h3 with h3 | h3
      · by_cases e : nb ≤ j
        · exact .inl (.inl ⟨j, e, by omega, h2⟩)
        · exact .inr ⟨j, by omega, h2, h3⟩
      · exact .inl (.inl ⟨j, by omega, by omega, h2⟩)
  · rintro ((⟨j, h1, h2, h3⟩ | h) | ⟨j, h1, h2, h3⟩)
    · exact .inr ⟨j, by omega, h3, .inr (by omega)⟩
    · exact .inl h
    · exact .inr ⟨j, by omega, h2, .inl h3⟩
theorem trm_is {A : List Int} {nb : Nat} (hA : A.length = 828) (hn : nb ≤ 828) (h : hbO (num A) nb = false) : trm (A.take nb) = trm A := by
  refine trm_same fun i => ?_
  by_cases hi : i < nb
  · exact num_take' hi
  · rw [num_out (by rw [List.length_take]; omega)]
    by_cases h8 : i < 828
    · by_cases e : num A i = 0
      · exact e.symm
      · rw [hbO_iff.2 ⟨i, by omega, h8, e⟩] at h; cases h
    · rw [num_out (by omega)]
/-- More addresses are put behind those that are there. -/
theorem cp_app {A p : List Int} (h : A.length + 28 ≤ 828) (hp : p.length = 28) : arr 828 (cpA (num A) A.length 28 (num p)) = arr 828 (num (A ++ p)) := by
  refine arr_congr fun i hi => ?_
  unfold cpA
  by_cases h1 : A.length ≤ i ∧ i < A.length + 28
  · rw [if_pos h1, num_appr h1.1]
  · rw [if_neg h1]
    by_cases h2 : i < A.length
    · rw [num_appl h2]
    · rw [num_out (by omega), num_out (by rw [List.length_append]; omega)]

/-- What a node's reading leaves. -/
def PrN (w : World) (K : Nat → Prop) (S : Sv) (g : Nat) (v : Value) (R : Except Int ((Nd × Bool) × List Int)) (hf : Nd × Bool → Bool) (e : Ending) (w' : World) : Prop :=
  Turn (Tv g v) w w' ∧ match R with
    | .error er => e = panE er
    | .ok (x, l) => ∃ (y : Nw) (v' : Value), e = .returned (nwV y) ∧ NwOk w' y ∧ y.nd = x.1 ∧ (∀ a, y.a = some a → w.heap.size ≤ a.block ∧ a.block < w'.heap.size) ∧ LdK w' (fun j => K j ∨ ∃ a, y.a = some a ∧ a.block = j) S g v' l (hf x) ∧ (∀ j, v'.ownBlock = some j → v.ownBlock = some j ∨ w.heap.size ≤ j)
theorem PrN.err {w : World} {K : Nat → Prop} {S : Sv} {g : Nat} {v : Value} {R : Except Int ((Nd × Bool) × List Int)} {hf : Nd × Bool → Bool} {w' : World} {er : Int} (hR : R = .error er) (ht : Turn (Tv g v) w w') : PrN w K S g v R hf (panE er) w' := by
  subst hR
  exact ⟨ht, rfl⟩
theorem PrN.ok {w : World} {K : Nat → Prop} {S : Sv} {g : Nat} {v : Value} {R : Except Int ((Nd × Bool) × List Int)} {hf : Nd × Bool → Bool} {w' : World} {x : Nd × Bool} {l : List Int} {y : Nw} {v' : Value} (hR : R = .ok (x, l)) (ht : Turn (Tv g v) w w') (h1 : NwOk w' y) (h2 : y.nd = x.1) (h3 : ∀ a, y.a = some a → w.heap.size ≤ a.block ∧ a.block < w'.heap.size) (hL : LdK w' (fun j => K j ∨ ∃ a, y.a = some a ∧ a.block = j) S g v' l (hf x)) (ho : ∀ j, v'.ownBlock = some j → v.ownBlock = some j ∨ w.heap.size ≤ j) : PrN w K S g v R hf (.returned (nwV y)) w' := by
  subst hR
  exact ⟨ht, y, v', rfl, h1, h2, h3, hL, ho⟩
theorem LdK.grown {w w' : World} {K K' M : Nat → Prop} {S : Sv} {g : Nat} {v : Value} {l : List Int} {h : Bool} (H : LdK w K S g v l h) (ht : Turn M w w') (hm : ∀ j, M j → K j ∧ S.w0.heap.size ≤ j) (hk : ∀ j, K' j → K j ∨ (w.heap.size ≤ j ∧ j < w'.heap.size)) : LdK w' K' S g v l h := by
  have H' := H.turn ht (fun j e => ⟨fun h' => by
    rcases h' with e2 | e2
    · exact (H.kk j (hm j e).1).2.1 e2
    · exact (H.kk j (hm j e).1).2.2 e2, (hm j e).2⟩)
  refine ⟨H'.row, H'.own, H'.sto, H'.bel, H'.gB, H'.vg, fun j e => ?_⟩
  rcases hk j e with e | e
  · exact H'.kk j e
  · have hg := lt_of_block H.row
    refine ⟨e.2, by omega, fun e2 => ?_⟩
    have := (World.ownsRow.lt H.own j e2).2
    omega
/-- Boxes that are not to be touched by others, and what they hold. -/
def RwL (w : World) (K : Nat → Prop) (L : List (Nat × Obj)) : Prop := ∀ x, x ∈ L → K x.1 ∧ w.heap[x.1]? = some x.2
section
variable {w w' : World} {K K' : Nat → Prop} {L L' : List (Nat × Obj)} {S : Sv} {g b : Nat} {v : Value} {l : List Int} {h0 : Bool} {o o' : Obj}
theorem RwL.call (h : RwL w K L) (H : LdK w K S g v l h0) (ht : Turn (Tv g v) w w') : RwL w' K L := fun x hx => ⟨(h x hx).1, H.keep ht (h x hx).1 (h x hx).2⟩
theorem RwL.next (h : RwL w K L) (hb : Below w.heap.size w w') : RwL w' K L := fun x hx => ⟨(h x hx).1, (hb.block _ (lt_of_block (h x hx).2)).trans (h x hx).2⟩
theorem RwL.box (h : RwL w K L) (hb : Below w.heap.size w w') (hr : w'.heap[b]? = some o) (hk : ∀ j, K j → K' j) (hkb : K' b) : RwL w' K' ((b, o) :: L) := fun x hx => by
  rcases List.mem_cons.1 hx with rfl | hx
  · exact ⟨hkb, hr⟩
  · exact ⟨hk _ (h x hx).1, (h.next hb x hx).2⟩
theorem RwL.set (h : RwL w K ((b, o) :: L)) (ht : Turn (· = b) w w') (hr : w'.heap[b]? = some o') (hne : ∀ x, x ∈ L → x.1 ≠ b) : RwL w' K ((b, o') :: L) := fun x hx => by
  rcases List.mem_cons.1 hx with rfl | hx
  · exact ⟨(h (b, o) (List.mem_cons_self)).1, hr⟩
  · have h1 := h x (List.mem_cons_of_mem _ hx)
    exact ⟨h1.1, (ht.block _ (lt_of_block h1.2) (hne x hx)).trans h1.2⟩
theorem RwL.sub (h : RwL w K L) (hs : ∀ x, x ∈ L' → x ∈ L) : RwL w K L' := fun x hx => h x (hs x hx)
theorem RwL.hd (h : RwL w K ((b, o) :: L)) : w.heap[b]? = some o := (h (b, o) List.mem_cons_self).2
theorem RwL.tl {x : Nat × Obj} (h : RwL w K (x :: L)) : RwL w K L := fun y hy => h y (List.mem_cons_of_mem _ hy)
end
/-- The loader's pointer's box. -/
abbrev ptO' (g : Nat) : Obj := .cells #[.pointer (some ⟨g, 0, none⟩)] 87 (0, 0)
abbrev adO' (A : Nat → Int) : Obj := .cells (arr 828 A) 105 (0, 0)
abbrev rcO' (F : Nat → Int) : Obj := .cells (rcs F) 81 (0, 0)
abbrev ndO' (x : Nw) : Obj := .cells (nwC x) 56 (0, 0)
abbrev pgO' (D : Nat → Int) : Obj := .cells (arr 28 D) 68 (0, 0)
/-- The last closure. -/
theorem enters_nd1 (args : Array Value) (w : World) : (callFunc 104 args).run Try.prog w = .ok (.enter 104 args) w := enters_of (P := Try.prog) Try.func104 (by kernel_rfl) rfl args w
theorem gives_nd1 (S : Sv) (g b : Nat) (w : World) {K : Nat → Prop} {v : Value} {l : List Int} {h : Bool} (H : LdK w K S g v l h) (hb3 : w.heap[b]? = some (ptO' g)) : GivesI 104 #[.pointer (some ⟨b, 0, none⟩)] (fun a => a != 0 && !isA S.M a) w := fun x w1 hb => by
  have H1 := H.next hb
  have hp := (hb.block _ (lt_of_block hb3)).trans hb3
  have y0 : w1.cell? ⟨b, 0, none⟩ = some (.pointer (some ⟨g, 0, none⟩)) := cell_of_row w1 b 0 _ _ (0, 0) hp
  obtain ⟨⟨y1, y2, y3⟩, _, _, _, lt0⟩ := H1.cells
  have hA := paddr_any S.d S.r S.s x w1
  have hsm := pSome_any x w1
  obtain ⟨t, ht⟩ : ∃ t, t = isA S.M x := ⟨_, rfl⟩
  rw [show isA (adO S.d S.r S.s) x = isA S.M x from rfl, ← ht] at hA
  show Calls Try.prog 104 #[.int .i64 x, .pointer (some ⟨b, 0, none⟩)] w1 fun e w' => e = .returned (.bool (x != 0 && !isA S.M x)) ∧ Below w1.heap.size w1 w'
  rw [← ht]
  obtain ⟨d, hd⟩ : ∃ d, d = (x != 0) := ⟨_, rfl⟩
  rw [← hd] at hsm ⊢
  clear H1 hp hb ht hd H hb3
  cases d with
  | false =>
    go_enter Try.func104, Try.ntmps104
    go_wp2_with (fail)
    refine hsm.mono ?_
    rintro e w2 ⟨rfl, rfl⟩
    clear hsm hA
    go_wp2_with (fail)
    go_ret
    exact ⟨rfl, Below.refl _ _⟩
  | true =>
    go_enter Try.func104, Try.ntmps104
    go_wp2_with (fail)
    refine hsm.mono ?_
    rintro e w2 ⟨rfl, rfl⟩
    clear hsm
    go_wp2_with (fail)
    refine hA.mono ?_
    rintro e w2 ⟨rfl, hb⟩
    have HB := Lib.hid hb
    clear hb hA
    go_wp2_with (fail)
    go_ret
    exact ⟨rfl, HB.out⟩
end Go.Proofs.Ytpmgagifpdamkaa
