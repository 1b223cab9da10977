/-
  The program's layPointers, laySome, from and firstOf, by contract.
-/
import Derived.Test.YtegcjpocdfmpfaaVar
import Derived.Test.YtegcjpocdfmpfaaVaq
import Derived.Test.YtegcjpocdfmpfaaVaj
import Derived.Test.YtegcjpocdfmpfaaVac
set_option linter.unusedVariables false
set_option linter.unusedSimpArgs false
set_option maxRecDepth 100000
set_option maxHeartbeats 16000000
namespace Go.Proofs.Ytegcjpocdfmpfaa
open Go.RowKit

theorem tb_arr (f : Nat → Int) : ((List.range 28).map fun i => f (0 + i)) = tb f := by
  unfold tb
  exact List.map_congr_left fun i _ => by rw [Nat.zero_add]
theorem playP_any {w0 w : World} {K : Nat → Prop} {g : Nat} {a : Option Addr} {n c : Nat} {ks : List Int} {u : Value} {gs : List Bl} (h : PlO w0 w K g a n c ks u gs) (own ind : Int) (f : Nat → Int) (hf : ∀ i, i < 28 → 0 ≤ f i ∧ f i ≤ 65535) (hlen : gs.length < n) (hs : gs.length ≤ 100000) :
    Calls Try.prog 50 #[.pointer (some ⟨g, 0, none⟩), .int .i64 own, .int .i64 ind, arv 28 f] w (LyP w0 w K g a n c ks u gs (num ks gs.length) [⟨own, ind, ppL (tb f)⟩]) := by
  have H := Lib.hid h
  have HS := Lib.hid hs
  have HL := Lib.hid hlen
  have HF := Lib.hid hf
  obtain ⟨wa, hwa⟩ : ∃ wa, wa = w.alloc (.cells (arr 28 f) 91 (0, 0)) := ⟨_, rfl⟩
  have hba : Below w.heap.size w wa := by rw [hwa]; exact (Below.refl _ _).alloc (Nat.le_refl _) _
  have hra : wa.heap[w.heap.size]? = some (.cells (arr 28 f) 91 (0, 0)) := by rw [hwa]; exact heap_alloc_new w _
  have hia := ins_arr hra (o := 0) (m := 28) (by omega)
  rw [tb_arr] at hia
  have HA := Lib.hid (h.next hba)
  have HB := Lib.hid hba
  have HI := Lib.hid hia
  have HW := Lib.hid hwa
  clear h hs hlen hf hwa hba hra hia
  go_enter Try.func50, Try.ntmps50
  go_wp2_with (first | (refine wpList_bxA ar28 (by rfl) (.tmp 3) rfl f rfl ?_; rw [← HW.out]) | fail)
  refine (putP_any (some ⟨w.heap.size, 0, none⟩) 28 28 _ wa HI.out (by omega)).mono ?_
  rintro e w2 ⟨a', n', c', rfl, hp, hnw, hb⟩
  rw [ppF_tb HF.out] at hp
  have hn56 : n' = 56 := by
    have := hp.len
    rw [ppL_len (by rw [tb_len]; exact Nat.le_refl _)] at this
    exact this.symm
  have H2 := Lib.hid (HA.out.next hb)
  have HB2 := Lib.hid (HB.out.trans (hb.mono HB.out.size))
  obtain ⟨z, hz⟩ : ∃ z : Bl, z = ⟨own, ind, a', n', c', ppL (tb f)⟩ := ⟨_, rfl⟩
  have hcall := play_any H2.out z (by rw [hz]; exact hp) (fun y e => by
    rw [hz] at e
    have h1 := hnw y e
    have h2 : y.block < w2.heap.size := by
      obtain ⟨b', o', e', hlt', _⟩ := hp.at (by omega)
      rw [e'] at e
      cases e
      exact hlt'
    refine ⟨fun e2 => ?_, h2, fun e2 => ?_⟩
    · have := (World.ownsRow.lt HA.out.o.out.row _ e2).2; omega
    · have := (HA.out.o.lt _ e2).2; omega) HL.out HS.out
  rw [hz] at hcall
  have HCALL := Lib.hid hcall
  clear hz hcall hp hnw hb hn56
  go_wp2_with (fail)
  refine HCALL.out.mono ?_
  rintro e w3 ⟨u', gs', rfl, h3, hg3, ht3, hu3⟩
  have H3 := Lib.hid h3
  have HG3 := Lib.hid hg3
  have HT3 := Lib.hid ((Turn.of_below (M := Lv g u) HB2.out).trans ht3)
  have HU3 := Lib.hid (show ∀ j, u'.ownBlock = some j → u.ownBlock = some j ∨ w.heap.size ≤ j from fun j e => by
    rcases hu3 j e with e1 | e1
    · exact .inl e1
    · exact .inr (Nat.le_trans HB2.out.size e1))
  clear h3 hg3 ht3 hu3
  go_wp2_with (fail)
  go_ret
  exact ⟨u', gs', rfl, H3.out, HG3.out, HT3.out, HU3.out⟩
theorem playS_any {w0 w : World} {K : Nat → Prop} {g : Nat} {a : Option Addr} {n c : Nat} {ks : List Int} {u : Value} {gs : List Bl} (h : PlO w0 w K g a n c ks u gs) (own ind : Int) (f : Nat → Int) (hf : ∀ i, i < 28 → 0 ≤ f i ∧ f i ≤ 65535) (hlen : gs.length < n) (hs : gs.length ≤ 100000) :
    Calls Try.prog 84 #[.pointer (some ⟨g, 0, none⟩), .int .i64 own, .int .i64 ind, arv 28 f] w (LyP w0 w K g a n c ks u gs (if allZ 28 f then 0 else num ks gs.length) (if allZ 28 f then [] else [⟨own, ind, ppL (tb f)⟩])) := by
  have H := Lib.hid h
  have HS := Lib.hid hs
  have HL := Lib.hid hlen
  have HF := Lib.hid hf
  obtain ⟨wa, hwa⟩ : ∃ wa, wa = w.alloc (.cells (arr 28 f) 91 (0, 0)) := ⟨_, rfl⟩
  have hba : Below w.heap.size w wa := by rw [hwa]; exact (Below.refl _ _).alloc (Nat.le_refl _) _
  have hra : wa.heap[w.heap.size]? = some (.cells (arr 28 f) 91 (0, 0)) := by rw [hwa]; exact heap_alloc_new w _
  have HA := Lib.hid (h.next hba)
  have HB := Lib.hid hba
  have HR := Lib.hid hra
  have HW := Lib.hid hwa
  have heq := fun w => run_eqZ f w
  obtain ⟨t, ht⟩ : ∃ t, t = allZ 28 f := ⟨_, rfl⟩
  rw [← ht] at heq ⊢
  clear h hs hlen hf hwa hba hra ht
  cases t with
  | true =>
    go_enter Try.func84, Try.ntmps84
    go_wp2_with (first
      | (refine wpList_bxA ar28 (by rfl) (.tmp 3) rfl f rfl ?_; rw [← HW.out])
      | (refine wpList_ldA ar28 (by rfl) (.tmp 7) rfl w.heap.size rfl f HR.out ?_)
      | (refine wpList_bu28 (by rfl) rfl ?_)
      | fail)
    go_ret
    exact ⟨u, gs, rfl, HA.out, by simp, Turn.of_below HB.out, fun j e => .inl e⟩
  | false =>
    go_enter Try.func84, Try.ntmps84
    go_wp2_with (first
      | (refine wpList_bxA ar28 (by rfl) (.tmp 3) rfl f rfl ?_; rw [← HW.out])
      | (refine wpList_ldA ar28 (by rfl) (.tmp 7) rfl w.heap.size rfl f HR.out ?_)
      | (refine wpList_bu28 (by rfl) rfl ?_)
      | fail)
    refine (playP_any HA.out own ind f HF.out HL.out HS.out).mono ?_
    rintro e w3 ⟨u', gs', rfl, h3, hg3, ht3, hu3⟩
    have H3 := Lib.hid h3
    have HG3 := Lib.hid hg3
    have HT3 := Lib.hid ((Turn.of_below (M := Lv g u) HB.out).trans ht3)
    have HU3 := Lib.hid (show ∀ j, u'.ownBlock = some j → u.ownBlock = some j ∨ w.heap.size ≤ j from fun j e => by
      rcases hu3 j e with e1 | e1
      · exact .inl e1
      · exact .inr (Nat.le_trans HB.out.size e1))
    clear h3 hg3 ht3 hu3 heq
    go_wp2_with (fail)
    go_ret
    exact ⟨u', gs', rfl, H3.out, HG3.out, HT3.out, HU3.out⟩
theorem pfirst_any (i : Nat) (h : i ≤ 1000) (w : World) : Calls Try.prog 86 #[.int .i64 (i : Int)] w fun e w' => e = .returned (.int .i64 ((44 + 28 * i : Nat) : Int)) ∧ w = w' := by
  have e : IntKind.i64.wrap ((i : Int) * 28) = ((28 * i : Nat) : Int) := by rw [show (i : Int) * 28 = ((28 * i : Nat) : Int) by omega]; exact IntWalk.i64_in _ (by omega)
  have e2 : IntKind.i64.wrap (44 + ((28 * i : Nat) : Int)) = ((44 + 28 * i : Nat) : Int) := by rw [show (44 : Int) + ((28 * i : Nat) : Int) = ((44 + 28 * i : Nat) : Int) by omega]; exact IntWalk.i64_in _ (by omega)
  go_enter Try.func86, Try.ntmps86
  go_wp2_with (fail)
  go_ret
  refine ⟨?_, rfl⟩
  congr 2
theorem pfrom_any (g k : Nat) (A : Nat → Int) (hk : k + 28 ≤ 828) (w : World) (hr : w.heap[g]? = some (.cells (arr 828 A) 149 (0, 0))) :
    Calls Try.prog 85 #[.pointer (some ⟨g, 0, none⟩), .int .i64 (k : Int)] w fun e w' => e = .returned (arv 28 fun i => A (k + i)) ∧ Below w.heap.size w w' := by
  obtain ⟨wa, hwa⟩ : ∃ wa, wa = w.alloc (.cells (arr 28 noA) 91 (0, 0)) := ⟨_, rfl⟩
  have hba : Below w.heap.size w wa := by rw [hwa]; exact (Below.refl _ _).alloc (Nat.le_refl _) _
  have hra : wa.heap[w.heap.size]? = some (.cells (arr 28 noA) 91 (0, 0)) := by rw [hwa]; exact heap_alloc_new w _
  have hga := (hba.block g (lt_of_block hr)).trans hr
  have HB := Lib.hid hba
  have HR := Lib.hid hra
  have HW := Lib.hid hwa
  have HC := Lib.hid (show ∀ i, i < 28 → wa.cell? ⟨g, k + i, none⟩ = some (.int .i64 (A (k + i))) from fun i hi => by
    rw [cell_of_row wa g (k + i) _ _ (0, 0) hga, arr_at A (by omega)])
  have hsl := run_slA_lh g k 28 hk (by omega)
  have hap := run_aptr
  have e28 : ((28 : Nat) : Int) = 28 := rfl
  rw [e28] at hsl
  clear hwa hba hra hga hr
  go_enter Try.func85, Try.ntmps85
  go_wp2_with (first
    | (refine wpList_alA ar28 (by rfl) rfl ?_; rw [← HW.out])
    | (refine wpList_ldM ar28 (by rfl) (.tmp 11) rfl g k rfl (fun i => A (k + i)) HC.out ?_)
    | (refine wpList_stA ar28 (by rfl) (.tmp 4) (.tmp 12) rfl w.heap.size rfl (fun i => A (k + i)) noA rfl HR.out ?_; intro w5 h5 ho5 hb5)
    | fail)
  refine bodyPost_ret (v := arv 28 fun i => A (k + i)) ?_ rfl ?_
  · exact res_c1 rfl _ _ ⟨w.heap.size, 0, none⟩ _ rfl (ar28.load h5)
  · exact ⟨rfl, hb5 _ _ (Nat.le_refl _) HB.out⟩

section
variable {α β : Type} {N : Int} {blk : Int → Option (List Int)}
theorem run_rd2 (q : Int) (k : List Int → Rp α) (l : List Int) : run N blk (.rd q k) l = match run N blk (.rd q .ret) l with
    | .ok (b, l') => run N blk (k b) l'
    | .error e => .error e := by
  have h := run_bind (N := N) (blk := blk) (.rd q .ret) k l
  have e : (Rp.rd q Rp.ret).bind k = Rp.rd q k := rfl
  rw [e] at h
  rw [h]
  cases run N blk (.rd q .ret) l with
  | ok x => obtain ⟨a, b⟩ := x; rfl
  | error e => rfl
end
theorem run_rd_len {N : Int} {blk : Int → Option (List Int)} {q : Int} {l l' b : List Int} (h : run N blk (.rd q .ret) l = .ok (b, l')) : l' = l ++ [q] := by
  rw [run] at h
  split at h
  · split at h
    · cases h
    · split at h
      · cases h; rfl
      · cases h
  · cases h
theorem som_num {ks : List Int} (h : ks.length = 28) : som ks = !allZ 28 (num ks) := by
  cases hz : allZ 28 (num ks) with
  | true =>
    rw [allZ_iff] at hz
    exact som_false fun i hi => hz i (by omega)
  | false =>
    cases hs : som ks with
    | true => rfl
    | false =>
      exfalso
      have : allZ 28 (num ks) = true := allZ_iff.2 fun i hi => by
        by_cases e : num ks i = 0
        · exact e
        · rw [som_iff.2 ⟨i, by omega, e⟩] at hs; cases hs
      rw [this] at hz
      cases hz
abbrev valP (ks : List Int) (u : Value) (w' : World) : Prop := u = arv 28 (num ks)
abbrev rdQ (q : Int) : Rp (List Int) := .rd q fun b => .ret (gpL b 28)
theorem preadP_any {K : Nat → Prop} (S : Sv) (g : Nat) (v : Value) (l : List Int) (hh : Bool) (q : Int) (w : World) (H : LdK w K S g v l hh) (hm : l.length ≤ 1000000) :
    Calls Try.prog 104 #[.pointer (some ⟨g, 0, none⟩), .int .i64 q] w (PrP w K S g v (run S.M S.blk (rdQ q) l) (fun _ => hh) valP) := by
  obtain ⟨wa, hwa⟩ : ∃ wa, wa = w.alloc (.cells (arr 28 noA) 91 (0, 0)) := ⟨_, rfl⟩
  have hba : Below w.heap.size w wa := by rw [hwa]; exact (Below.refl _ _).alloc (Nat.le_refl _) _
  have hra : wa.heap[w.heap.size]? = some (.cells (arr 28 noA) 91 (0, 0)) := by rw [hwa]; exact heap_alloc_new w _
  have HH := Lib.hid (show LdK wa (fun j => K j ∨ j = w.heap.size) S g v l hh from H.box hba (b := w.heap.size) (Nat.le_refl _) (lt_of_block hra) (fun j e => e))
  have HB := Lib.hid hba
  have HR := Lib.hid hra
  have HW := Lib.hid hwa
  have HL := Lib.hid hm
  have HG0 := Lib.hid (show S.w0.heap.size ≤ w.heap.size from H.bel.size)
  have hap := run_aptr
  have hcall := pblock_any S g v l hh q wa HH.out hm
  obtain ⟨R, hR⟩ : ∃ R, R = run S.M S.blk (.rd q .ret) l := ⟨_, rfl⟩
  rw [← hR] at hcall
  have HRE := Lib.hid hR
  clear hwa hba hra H hm hR
  cases R with
  | error er =>
    have HE := Lib.hid (show run S.M S.blk (rdQ q) l = .error er by rw [run_rd2, ← HRE.out])
    go_enter Try.func104, Try.ntmps104
    go_wp2_with (first | (refine wpList_alA ar28 (by rfl) rfl ?_; rw [← HW.out]) | fail)
    refine hcall.mono ?_
    rintro e w2 ⟨ht, rfl⟩
    exact ⟨rfl, PrP.err HE.out ((Turn.of_below (M := Tv g v) HB.out).trans ht)⟩
  | ok x =>
    obtain ⟨z, l'⟩ := x
    have HE := Lib.hid (show run S.M S.blk (rdQ q) l = .ok (gpL z 28, l') by rw [run_rd2, ← HRE.out]; rfl)
    go_enter Try.func104, Try.ntmps104
    go_wp2_with (first | (refine wpList_alA ar28 (by rfl) rfl ?_; rw [← HW.out]) | fail)
    refine hcall.mono ?_
    rintro e w2 ⟨ht, u, v', rfl, ⟨a, c, rfl, hp, hn⟩, hk, ho⟩
    have HK2 := Lib.hid hk
    have HR2 := Lib.hid (HH.out.keep ht (.inr rfl) HR.out)
    have HT2 := Lib.hid ((Turn.of_below (M := Tv g v) HB.out).trans ht)
    have HO2 := Lib.hid (show ∀ j, v'.ownBlock = some j → v.ownBlock = some j ∨ w.heap.size ≤ j from fun j e => by
      rcases ho j e with e1 | e1
      · exact .inl e1
      · exact .inr (Nat.le_trans HB.out.size e1))
    have HP2 := Lib.hid hp
    clear hcall hk ht ho hp hn
    go_wp2_with (fail)
    refine (getP_any a 56 c z w2 HP2.out.bys (by omega)).mono ?_
    rintro e w3 ⟨a3, c3, rfl, hi3, _, _, hb3⟩
    have hz56 := HP2.out.len
    rw [gpF, if_pos hz56] at hi3 ⊢
    rw [gpL_len] at hi3 ⊢
    obtain ⟨b3, o3, rfl, hl3, hc3⟩ := hi3.at (by omega)
    have HK3 := Lib.hid (HK2.out.next hb3)
    have HR3 := Lib.hid ((hb3.block _ (lt_of_block HR2.out)).trans HR2.out)
    have HT3 := Lib.hid (HT2.out.trans (Turn.of_below hb3))
    have HC3 := Lib.hid hc3
    clear hi3 hb3 hl3 hz56
    go_wp2_with (first
      | (refine wpList_ldM ar28 (by rfl) (.tmp 15) rfl b3 o3 rfl (num (gpL z 28)) HC3.out ?_)
      | (refine wpList_stA ar28 (by rfl) (.tmp 4) (.tmp 16) rfl w.heap.size rfl (num (gpL z 28)) noA rfl HR3.out ?_; intro w5 h5 ho5 hb5)
      | fail)
    have ht5 : Turn (· = w.heap.size) w3 w5 := ⟨(hb5 _ _ (Nat.le_refl _) (Below.refl _ _)).os, (hb5 _ _ (Nat.le_refl _) (Below.refl _ _)).tape, (hb5 _ _ (Nat.le_refl _) (Below.refl _ _)).output, (hb5 _ _ (Nat.le_refl _) (Below.refl _ _)).size, fun k _ hk => ho5 k hk⟩
    refine bodyPost_ret (v := arv 28 (num (gpL z 28))) ?_ rfl ?_
    · exact res_c1 rfl _ _ ⟨w.heap.size, 0, none⟩ _ rfl (ar28.load h5)
    · exact PrP.ok HE.out (HT3.out.trans2 ht5 (fun j e => .inr (by rw [e]; exact Nat.le_refl _))) rfl ((HK3.out.set ht5 (.inr rfl) HG0.out).sub (fun j e => .inl e)) HO2.out
/-- The flag is set. -/
theorem LdK.flag {w : World} {K : Nat → Prop} {S : Sv} {g : Nat} {v : Value} {l : List Int} {h : Bool} (H : LdK w K S g v l h) (b : Bool) : LdK (w.setCell ⟨g, 5, none⟩ (.bool b)) K S g v l b ∧ Turn (Tv g v) w (w.setCell ⟨g, 5, none⟩ (.bool b)) := by
  have ht2 : Turn (· = g) w (w.setCell ⟨g, 5, none⟩ (.bool b)) := Turn.setCell (M := (· = g)) (a := ⟨g, 5, none⟩) w rfl _
  refine ⟨⟨?_, H.own.turn ht2 (fun j e h' => by subst h'; exact H.vg e), H.sto, H.bel.trans (ht2.below H.bel.size fun j hj => by rw [hj]; exact H.gB), H.gB, H.vg, fun j e => ⟨Nat.lt_of_lt_of_le (H.kk j e).1 ht2.size, (H.kk j e).2⟩⟩, ht2.mono fun j e => .inl e⟩
  rw [heap_setCell_same w g 5 _ _ _ H.row]; rfl

abbrev valS (x : List Int × Bool) (u : Value) (w' : World) : Prop := u = arv 28 (num x.1)
theorem arr_zer : arr 28 noA = arr 28 (num zer) := arr_congr fun i hi => by rw [zer, tb_num _ hi]; rfl
theorem run_rdQ {N : Int} {blk : Int → Option (List Int)} (q : Int) (l : List Int) : run N blk (rdQ q) l = match run N blk (.rd q .ret) l with
    | .ok (b, l') => .ok (gpL b 28, l')
    | .error e => .error e := by
  rw [run_rd2]
  cases run N blk (.rd q .ret) l with
  | ok x => rfl
  | error e => rfl
theorem run_rdP {N : Int} {blk : Int → Option (List Int)} {q : Int} (h0 : ¬ q = 0) (l : List Int) : run N blk (rdP q) l = match run N blk (rdQ q) l with
    | .ok (b, l') => .ok ((b, !som b), l')
    | .error e => .error e := by
  rw [run_rdQ, rdP, if_neg h0, run_rd2]
  cases run N blk (.rd q .ret) l with
  | ok x => rfl
  | error e => rfl
theorem run_rdQ_len {N : Int} {blk : Int → Option (List Int)} {q : Int} {l b l' : List Int} (h : run N blk (rdQ q) l = .ok (b, l')) : b.length = 28 := by
  rw [run_rdQ] at h
  cases hx : run N blk (.rd q .ret) l with
  | ok x =>
    rw [hx] at h
    simp only [Except.ok.injEq, Prod.mk.injEq] at h
    rw [← h.1]
    exact gpL_len _ _
  | error er => rw [hx] at h; cases h
theorem preadS_any {K : Nat → Prop} (S : Sv) (g : Nat) (v : Value) (l : List Int) (hh : Bool) (q : Int) (w : World) (H : LdK w K S g v l hh) (hm : l.length ≤ 1000000) :
    Calls Try.prog 140 #[.pointer (some ⟨g, 0, none⟩), .int .i64 q] w (PrP w K S g v (run S.M S.blk (rdP q) l) (fun x => hh || x.2) valS) := by
  obtain ⟨wa, hwa⟩ : ∃ wa, wa = w.alloc (.cells (arr 28 noA) 91 (0, 0)) := ⟨_, rfl⟩
  have hba : Below w.heap.size w wa := by rw [hwa]; exact (Below.refl _ _).alloc (Nat.le_refl _) _
  have hra : wa.heap[w.heap.size]? = some (.cells (arr 28 noA) 91 (0, 0)) := by rw [hwa]; exact heap_alloc_new w _
  have HH := Lib.hid (show LdK wa (fun j => K j ∨ j = w.heap.size) S g v l hh from H.box hba (b := w.heap.size) (Nat.le_refl _) (lt_of_block hra) (fun j e => e))
  have HB := Lib.hid hba
  have HR := Lib.hid hra
  have HW := Lib.hid hwa
  have HL := Lib.hid hm
  have HG0 := Lib.hid (show S.w0.heap.size ≤ w.heap.size from H.bel.size)
  have hsm := pSome_any q wa
  clear hwa hba hra H hm
  by_cases h0 : q = 0
  · have d0 : (q != 0) = false := by simp [h0]
    rw [d0] at hsm
    have HE := Lib.hid (show run S.M S.blk (rdP q) l = .ok ((zer, false), l) by rw [rdP, if_pos h0]; rfl)
    clear h0 d0
    go_enter Try.func140, Try.ntmps140
    go_wp2_with (first | (refine wpList_alA ar28 (by rfl) rfl ?_; rw [← HW.out]) | fail)
    refine hsm.mono ?_
    rintro e w2 ⟨rfl, rfl⟩
    clear hsm
    go_wp2_with (first
      | (refine wpList_bu28 (by rfl) rfl ?_)
      | (refine wpList_stA ar28 (by rfl) (.tmp 4) (.tmp 9) rfl w.heap.size rfl noA noA rfl HR.out ?_; intro w5 h5 ho5 hb5)
      | fail)
    have ht5 : Turn (· = w.heap.size) wa w5 := ⟨(hb5 _ _ (Nat.le_refl _) (Below.refl _ _)).os, (hb5 _ _ (Nat.le_refl _) (Below.refl _ _)).tape, (hb5 _ _ (Nat.le_refl _) (Below.refl _ _)).output, (hb5 _ _ (Nat.le_refl _) (Below.refl _ _)).size, fun k _ hk => ho5 k hk⟩
    refine bodyPost_ret (v := arv 28 noA) ?_ rfl ?_
    · exact res_c1 rfl _ _ ⟨w.heap.size, 0, none⟩ _ rfl (ar28.load h5)
    · exact PrP.ok HE.out ((Turn.of_below (M := Tv g v) HB.out).trans2 ht5 (fun j e => .inr (by rw [e]; exact Nat.le_refl _))) (by show arv 28 noA = arv 28 (num zer); unfold arv; rw [arr_zer]) (by
        have := (HH.out.set ht5 (.inr rfl) HG0.out).sub (K' := K) (fun j e => .inl e)
        rw [Bool.or_false]
        exact this) (fun j e => .inl e)
  · have d0 : (q != 0) = true := by simp [h0]
    rw [d0] at hsm
    have hcall := preadP_any S g v l hh q wa HH.out HL.out
    obtain ⟨R, hR⟩ : ∃ R, R = run S.M S.blk (rdQ q) l := ⟨_, rfl⟩
    rw [← hR] at hcall
    have HRE := Lib.hid hR
    have HRP := Lib.hid (run_rdP (N := S.M) (blk := S.blk) h0 l)
    have HLEN := Lib.hid (fun b l' (e : R = .ok (b, l')) => run_rdQ_len (N := S.M) (blk := S.blk) (q := q) (l := l) (b := b) (l' := l') (hR ▸ e))
    clear h0 d0 hR
    cases R with
    | error er =>
      have HE := Lib.hid (show run S.M S.blk (rdP q) l = .error er by rw [HRP.out, ← HRE.out])
      go_enter Try.func140, Try.ntmps140
      go_wp2_with (first | (refine wpList_alA ar28 (by rfl) rfl ?_; rw [← HW.out]) | fail)
      refine hsm.mono ?_
      rintro e w2 ⟨rfl, rfl⟩
      clear hsm
      go_wp2_with (fail)
      refine hcall.mono ?_
      rintro e w2 ⟨ht, rfl⟩
      exact ⟨rfl, PrP.err HE.out ((Turn.of_below (M := Tv g v) HB.out).trans ht)⟩
    | ok x =>
      obtain ⟨ks, l'⟩ := x
      have HE := Lib.hid (show run S.M S.blk (rdP q) l = .ok ((ks, !som ks), l') by rw [HRP.out, ← HRE.out])
      have HKL := Lib.hid (HLEN.out ks l' rfl)
      go_enter Try.func140, Try.ntmps140
      go_wp2_with (first | (refine wpList_alA ar28 (by rfl) rfl ?_; rw [← HW.out]) | fail)
      refine hsm.mono ?_
      rintro e w2 ⟨rfl, rfl⟩
      clear hsm
      go_wp2_with (fail)
      refine hcall.mono ?_
      rintro e w2 ⟨ht, u, v', rfl, hu, hk, ho⟩
      subst hu
      obtain ⟨wb, hwb⟩ : ∃ wb, wb = w2.alloc (.cells (arr 28 noA) 91 (0, 0)) := ⟨_, rfl⟩
      obtain ⟨b5, hb5⟩ : ∃ b, b = w2.heap.size := ⟨_, rfl⟩
      have hbb : Below w2.heap.size w2 wb := by rw [hwb]; exact (Below.refl _ _).alloc (Nat.le_refl _) _
      have hrb : wb.heap[b5]? = some (.cells (arr 28 noA) 91 (0, 0)) := by rw [hwb, hb5]; exact heap_alloc_new w2 _
      have HKb := Lib.hid (show LdK wb (fun j => (K j ∨ j = w.heap.size) ∨ j = b5) S g v' l' hh from hk.box hbb (b := b5) (by omega) (lt_of_block hrb) (fun j e => e))
      have HRb := Lib.hid ((hbb.block _ (by have := (hk.kk w.heap.size (.inr rfl)).1; exact this)).trans (HH.out.keep ht (.inr rfl) HR.out))
      have HTb := Lib.hid (((Turn.of_below (M := Tv g v) HB.out).trans ht).trans (Turn.of_below hbb))
      have HN5 := Lib.hid (show w.heap.size < b5 by rw [hb5]; exact (hk.kk w.heap.size (.inr rfl)).1)
      have HO2 := Lib.hid (show ∀ j, v'.ownBlock = some j → v.ownBlock = some j ∨ w.heap.size ≤ j from fun j e => by
        rcases ho j e with e1 | e1
        · exact .inl e1
        · exact .inr (Nat.le_trans HB.out.size e1))
      have HR5 := Lib.hid hrb
      have HWB := Lib.hid hwb
      have HB5 := Lib.hid hb5
      have heq := fun w => run_eqZ (num ks) w
      have HZ := Lib.hid (som_num HKL.out)
      obtain ⟨az, haz⟩ : ∃ z, z = allZ 28 (num ks) := ⟨_, rfl⟩
      rw [← haz] at heq HZ
      have f5 := HKb.out.free 5
      clear hcall hk ht ho hwb hb5 hbb hrb haz f5
      go_upto_region 4 with (first
        | (refine wpList_alA ar28 (by rfl) rfl ?_; rw [← HWB.out, ← HB5.out])
        | (refine wpList_stA ar28 (by rfl) (.tmp 5) (.tmp 12) rfl b5 rfl (num ks) noA rfl HR5.out ?_; intro w6 h6 ho6 hb6)
        | fail)
      have ht6 : Turn (· = b5) wb w6 := ⟨(hb6 _ _ (Nat.le_refl _) (Below.refl _ _)).os, (hb6 _ _ (Nat.le_refl _) (Below.refl _ _)).tape, (hb6 _ _ (Nat.le_refl _) (Below.refl _ _)).output, (hb6 _ _ (Nat.le_refl _) (Below.refl _ _)).size, fun k _ hk => ho6 k hk⟩
      have HK6 := Lib.hid (HKb.out.set ht6 (.inr rfl) (by have := HN5.out; have := HG0.out; omega))
      have HR6 := Lib.hid ((ht6.block w.heap.size (lt_of_block HRb.out) (by show ¬ w.heap.size = b5; have := HN5.out; omega)).trans HRb.out)
      have HT6 := Lib.hid (HTb.out.trans2 ht6 (fun j e => .inr (by rw [e]; have := HN5.out; omega)))
      have H6 := Lib.hid h6
      clear h6 ho6 hb6 ht6 HKb HRb HTb HR5 HWB HB5
      have c5 := HK6.out.cells.2.2.2.1
      have l5 := HK6.out.cells.2.2.2.2
      have f5 := HK6.out.free 5
      obtain ⟨HK7, HT7⟩ := HK6.out.flag (hh || az)
      have hk7 := (HK6.out.kk w.heap.size (.inl (.inr rfl)))
      have HR7 := Lib.hid ((HT7.block w.heap.size hk7.1 (fun e => by
        rcases e with e | e
        · exact hk7.2.1 e
        · exact hk7.2.2 e)).trans HR6.out)
      have hk75 := (HK6.out.kk b5 (.inr rfl))
      have HS7 := Lib.hid ((HT7.block b5 hk75.1 (fun e => by
        rcases e with e | e
        · exact hk75.2.1 e
        · exact hk75.2.2 e)).trans H6.out)
      have HK7 := Lib.hid HK7
      have HT7 := Lib.hid (HT6.out.trans2 HT7 (fun j e => by
        rcases e with e | e
        · exact .inl (.inl e)
        · rcases HO2.out j e with e1 | e1
          · exact .inl (.inr e1)
          · exact .inr e1))
      clear hk7 hk75
      cases hh with
      | true =>
        rw [show (true || az) = true from rfl] at HK7 HR7 HS7 HT7
        go_wp2_with (first
          | (refine wpList_ldA ar28 (by rfl) (.tmp 5) rfl b5 rfl (num ks) HS7.out ?_)
          | (refine wpList_stA ar28 (by rfl) (.tmp 4) (.tmp 25) rfl w.heap.size rfl (num ks) noA rfl HR7.out ?_; intro w8 h8 ho8 hb8)
          | fail)
        have ht8 : Turn (· = w.heap.size) _ w8 := ⟨(hb8 _ _ (Nat.le_refl _) (Below.refl _ _)).os, (hb8 _ _ (Nat.le_refl _) (Below.refl _ _)).tape, (hb8 _ _ (Nat.le_refl _) (Below.refl _ _)).output, (hb8 _ _ (Nat.le_refl _) (Below.refl _ _)).size, fun k _ hk => ho8 k hk⟩
        refine bodyPost_ret (v := arv 28 (num ks)) ?_ rfl ?_
        · exact res_c1 rfl _ _ ⟨w.heap.size, 0, none⟩ _ rfl (ar28.load h8)
        · exact PrP.ok HE.out (HT7.out.trans2 ht8 (fun j e => .inr (by rw [e]; exact Nat.le_refl _))) rfl ((HK7.out.set ht8 (.inl (.inr rfl)) HG0.out).sub (fun j e => .inl (.inl e))) HO2.out
      | false =>
        rw [show (false || az) = az from rfl] at HK7 HR7 HS7 HT7
        go_wp2_with (first
          | (refine wpList_ldA ar28 (by rfl) (.tmp 5) rfl b5 rfl (num ks) H6.out ?_)
          | (refine wpList_bu28 (by rfl) rfl ?_)
          | (refine wpList_ldA ar28 (by rfl) (.tmp 5) rfl b5 rfl (num ks) HS7.out ?_)
          | (refine wpList_stA ar28 (by rfl) (.tmp 4) (.tmp 25) rfl w.heap.size rfl (num ks) noA rfl HR7.out ?_; intro w8 h8 ho8 hb8)
          | fail)
        have ht8 : Turn (· = w.heap.size) _ w8 := ⟨(hb8 _ _ (Nat.le_refl _) (Below.refl _ _)).os, (hb8 _ _ (Nat.le_refl _) (Below.refl _ _)).tape, (hb8 _ _ (Nat.le_refl _) (Below.refl _ _)).output, (hb8 _ _ (Nat.le_refl _) (Below.refl _ _)).size, fun k _ hk => ho8 k hk⟩
        refine bodyPost_ret (v := arv 28 (num ks)) ?_ rfl ?_
        · exact res_c1 rfl _ _ ⟨w.heap.size, 0, none⟩ _ rfl (ar28.load h8)
        · refine PrP.ok HE.out (HT7.out.trans2 ht8 (fun j e => .inr (by rw [e]; exact Nat.le_refl _))) rfl ?_ HO2.out
          have := (HK7.out.set ht8 (.inl (.inr rfl)) HG0.out).sub (K' := K) (fun j e => .inl (.inl e))
          rw [show (false || !som ks) = az by rw [HZ.out]; cases az <;> rfl]
          exact this

theorem pput_any (b k : Nat) (A f : Nat → Int) (hk : k + 28 ≤ 828) (w : World) (hr : w.heap[b]? = some (.cells (arr 828 A) 149 (0, 0))) :
    Calls Try.prog 139 #[.pointer (some ⟨b, 0, none⟩), .int .i64 (k : Int), arv 28 f] w fun e w' => e = .returned (.tuple #[]) ∧ w'.heap[b]? = some (.cells (arr 828 (cpA A k 28 f)) 149 (0, 0)) ∧ Turn (· = b) w w' := by
  obtain ⟨wa, hwa⟩ : ∃ wa, wa = w.alloc (.cells (arr 28 f) 91 (0, 0)) := ⟨_, rfl⟩
  have hba : Below w.heap.size w wa := by rw [hwa]; exact (Below.refl _ _).alloc (Nat.le_refl _) _
  have hra : wa.heap[w.heap.size]? = some (.cells (arr 28 f) 91 (0, 0)) := by rw [hwa]; exact heap_alloc_new w _
  have hga := (hba.block b (lt_of_block hr)).trans hr
  obtain ⟨L, hL, hLn⟩ : ∃ L, (∀ w' : World, w'.heap[w.heap.size]? = some (.cells (arr 28 f) 91 (0, 0)) → Ins w' (some ⟨w.heap.size, 0, none⟩) 28 L) ∧ ∀ i, i < 28 → num L i = f i := by
    refine ⟨(List.range 28).map fun i => f (0 + i), fun w' hr => ins_arr hr (by omega), fun i hi => ?_⟩
    simp [num, List.getD, hi]
  have HB := Lib.hid hba
  have HR := Lib.hid hra
  have HG := Lib.hid hga
  have HW := Lib.hid hwa
  have HLI := Lib.hid hL
  have HLN := Lib.hid hLn
  have hsl : ∀ w, (Instr.sliceAt 149 (.pointer (some ⟨b, 0, none⟩)) (some (.int .i64 (k : Int))) none none).run Try.prog w = .ok (.slice (some ⟨b, k, none⟩) (828 - k) (828 - k)) w := fun w => by
    have := run_slA_l b k (by omega) w
    rwa [if_neg (by omega)] at this
  have HM : Hid (28 = Nat.min 28 (828 - k)) := Lib.hid (by rw [show Nat.min 28 (828 - k) = min 28 (828 - k) from rfl]; omega)
  clear hwa hba hra hga hr hL hLn
  go_enter Try.func139, Try.ntmps139
  go_upto_region 1 with (first | (refine wpList_bxA ar28 (by rfl) (.tmp 2) rfl f rfl ?_; rw [← HW.out]) | fail)
  go_region_law (refine step_copyA rfl (.tmp 9) (.tmp 10) rfl b k (828 - k) (828 - k) (some ⟨w.heap.size, 0, none⟩) 28 28 828 A _ L 28 (by simp [Act.eval, Act.put]) (by simp [Act.eval, Act.put]) HG.out (HLI.out _ HR.out) HM.out hk ?_; intro wc hcr hct)
  go_wp2_with (fail)
  go_end0
  refine ⟨rfl, ?_, (Turn.of_below HB.out).trans ((Turn.of_below (below_drewN (Below.refl _ _) 1)).trans hct)⟩
  rw [hcr]
  congr 2
  refine arr_congr fun i hi => ?_
  unfold cpA
  by_cases h : k ≤ i ∧ i < k + 28
  · rw [if_pos h, if_pos h, HLN.out _ (by omega)]
  · rw [if_neg h, if_neg h]
/-- Has one of the blocks from a number on an address? -/
def hbO (A : Nat → Int) (nb : Nat) : Bool := (List.range 828).any fun i => decide (nb ≤ i) && A i != 0
theorem hbO_iff {A : Nat → Int} {nb : Nat} : hbO A nb = true ↔ ∃ i, nb ≤ i ∧ i < 828 ∧ A i ≠ 0 := by
  unfold hbO
  rw [List.any_eq_true]
  constructor
  · rintro ⟨i, hi, h⟩
    rw [Bool.and_eq_true, decide_eq_true_eq] at h
    exact ⟨i, h.1, List.mem_range.1 hi, by simpa using h.2⟩
  · rintro ⟨i, h1, h2, h3⟩
    exact ⟨i, List.mem_range.2 h2, by rw [Bool.and_eq_true, decide_eq_true_eq]; exact ⟨h1, by simpa using h3⟩⟩
theorem enters_some (args : Array Value) (w : World) : (callFunc 102 args).run Try.prog w = .ok (.enter 102 args) w := enters_of (P := Try.prog) Try.func102 (by kernel_rfl) rfl args w
theorem phas_any (A : Nat → Int) (nb : Nat) (hn : nb ≤ 828) (w : World) :
    Calls Try.prog 141 #[arv 828 A, .int .i64 (nb : Int)] w fun e w' => e = .returned (.bool (hbO A nb)) ∧ Below w.heap.size w w' := by
  obtain ⟨wa, hwa⟩ : ∃ wa, wa = w.alloc (.cells (arr 828 A) 149 (0, 0)) := ⟨_, rfl⟩
  have hba : Below w.heap.size w wa := by rw [hwa]; exact (Below.refl _ _).alloc (Nat.le_refl _) _
  have hra : wa.heap[w.heap.size]? = some (.cells (arr 828 A) 149 (0, 0)) := by rw [hwa]; exact heap_alloc_new w _
  obtain ⟨o, hoe⟩ : ∃ o, o = if nb = 828 then 0 else nb := ⟨_, rfl⟩
  have hsl := run_slA_l w.heap.size nb hn
  rw [← hoe] at hsl
  obtain ⟨m, hme⟩ : ∃ m, m = 828 - nb := ⟨_, rfl⟩
  rw [← hme] at hsl
  obtain ⟨L, hLI, hLA⟩ : ∃ L, Ins wa (some ⟨w.heap.size, o, none⟩) m L ∧ (L.any fun a => a != 0) = hbO A nb := by
    refine ⟨(List.range m).map fun i => A (o + i), ins_arr hra (by rw [hoe, hme]; split <;> omega), ?_⟩
    rw [Bool.eq_iff_iff, hbO_iff, List.any_eq_true]
    constructor
    · rintro ⟨x, hx, hne⟩
      obtain ⟨i, hi, rfl⟩ := List.mem_map.1 hx
      have hi' := List.mem_range.1 hi
      by_cases e : nb = 828
      · omega
      · rw [hoe, if_neg e] at hne
        exact ⟨nb + i, by omega, by omega, by simpa using hne⟩
    · rintro ⟨i, h1, h2, h3⟩
      refine ⟨A i, List.mem_map.2 ⟨i - nb, List.mem_range.2 (by omega), ?_⟩, by simpa using h3⟩
      rw [hoe, if_neg (by omega)]
      congr 1
      omega
  have hcall := containsI_any 102 #[] enters_some _ wa (gives_some wa) (some ⟨w.heap.size, o, none⟩) m m L hLI (by omega)
  rw [hLA] at hcall
  have HB := Lib.hid hba
  have HW := Lib.hid hwa
  have HC := Lib.hid hcall
  obtain ⟨t, ht⟩ : ∃ t, t = hbO A nb := ⟨_, rfl⟩
  rw [← ht] at HC ⊢
  clear hwa hba hra hoe hme hLI hLA hcall ht
  go_enter Try.func141, Try.ntmps141
  go_wp2_with (first | (refine wpList_bxA arA (by rfl) (.tmp 0) rfl A rfl ?_; rw [← HW.out]) | fail)
  refine HC.out.mono ?_
  rintro e w2 ⟨rfl, hb⟩
  have HB2 := Lib.hid (HB.out.trans (hb.mono HB.out.size))
  clear hb
  go_wp2_with (fail)
  go_ret
  exact ⟨rfl, HB2.out⟩
def pbO (D : Nat → Int) (nb : Nat) : Bool := (List.range 28).any fun i => D i != 0 && decide (nb ≤ 44 + 28 * i)
theorem pbO_iff {D : Nat → Int} {nb : Nat} : pbO D nb = true ↔ ∃ i, i < 28 ∧ D i ≠ 0 ∧ nb ≤ 44 + 28 * i := by
  unfold pbO
  rw [List.any_eq_true]
  constructor
  · rintro ⟨i, hi, h⟩
    rw [Bool.and_eq_true, decide_eq_true_eq] at h
    exact ⟨i, List.mem_range.1 hi, by simpa using h.1, h.2⟩
  · rintro ⟨i, h1, h2, h3⟩
    exact ⟨i, List.mem_range.2 h1, by rw [Bool.and_eq_true, decide_eq_true_eq]; exact ⟨by simpa using h2, h3⟩⟩
theorem ppoints_any (D : Nat → Int) (nb : Nat) (w : World) :
    Calls Try.prog 142 #[arv 28 D, .int .i64 (nb : Int)] w fun e w' => e = .returned (.bool (pbO D nb)) ∧ Below w.heap.size w w' := by
  obtain ⟨wa, hwa⟩ : ∃ wa, wa = w.alloc (.cells (arr 28 D) 91 (0, 0)) := ⟨_, rfl⟩
  have hba : Below w.heap.size w wa := by rw [hwa]; exact (Below.refl _ _).alloc (Nat.le_refl _) _
  have hra : wa.heap[w.heap.size]? = some (.cells (arr 28 D) 91 (0, 0)) := by rw [hwa]; exact heap_alloc_new w _
  have HB := Lib.hid hba
  have HW := Lib.hid hwa
  have HR := Lib.hid hra
  clear hwa hba hra
  go_enter Try.func142, Try.ntmps142
  go_wp2_with (first
    | (refine wpList_bxA ar28 (by rfl) (.tmp 0) rfl D rfl ?_; rw [← HW.out])
    | (refine wpList_ldA ar28 (by rfl) (.tmp 2) rfl w.heap.size rfl D HR.out ?_)
    | fail)
  go_loopw [5, 6, 8] (fun _ _ v8 wr => ∃ i : Nat, i ≤ 28 ∧ v8 = .int .i64 i ∧ (∀ j, j < i → ¬ (D j ≠ 0 ∧ nb ≤ 44 + 28 * j)) ∧ Below wa.heap.size wa wr) (fun _ _ v8 _ => 28 - (RowKit.intOf v8).toNat)
  case atStart => exact ⟨0, by omega, rfl, (fun j hj => by omega), Below.refl _ _⟩
  case round =>
    obtain ⟨i, hi, rfl, hne, hbw⟩ := hrel
    have HBW := Lib.hid hbw
    clear hbw
    have HN := Lib.hid hne
    clear hne
    by_cases hlt : i < 28
    · have k1 : (i : Int) < 28 := by omega
      have hix := fun w => run_idxA 91 28 Try.underlying91 D i hlt w
      obtain ⟨z, hz⟩ : ∃ z, z = D i := ⟨_, rfl⟩
      rw [← hz] at hix
      have HZ := Lib.hid hz
      have hsm := pSome_any z wr
      have HLT := Lib.hid hlt
      clear hz hlt
      by_cases ez : z = 0
      · have d0 : (z != 0) = false := by simp [ez]
        rw [d0] at hsm
        have HS := Lib.hid (show ∀ j, j < i + 1 → ¬ (D j ≠ 0 ∧ nb ≤ 44 + 28 * j) from fun j hj => by
          by_cases e : j = i
          · subst e; rw [← HZ.out]; exact fun h => h.1 ez
          · exact HN.out j (by omega))
        clear ez d0
        go_wp2_with (fail)
        refine hsm.mono ?_
        rintro e w2 ⟨rfl, rfl⟩
        clear hsm
        go_wp2_with (fail)
        go_roundw
        case rel => exact ⟨i + 1, by omega, by go_num, HS.out, HBW.out⟩
        case measure => simp [RowKit.intOf]; omega
      · have d0 : (z != 0) = true := by simp [ez]
        rw [d0] at hsm
        obtain ⟨kk, hkk⟩ : ∃ kk, kk = 44 + 28 * i := ⟨_, rfl⟩
        have hf := pfirst_any i (by omega) wr
        rw [← hkk] at hf
        have HKK := Lib.hid hkk
        clear hkk d0
        by_cases hb : nb ≤ kk
        · have d1 : (nb : Int) ≤ (kk : Int) := by omega
          have HP := Lib.hid (show pbO D nb = true from pbO_iff.2 ⟨i, HLT.out, by rw [← HZ.out]; exact ez, by rw [← HKK.out]; exact hb⟩)
          clear hb ez
          go_wp2_with (fail)
          refine hsm.mono ?_
          rintro e w2 ⟨rfl, rfl⟩
          clear hsm
          go_wp2_with (fail)
          refine hf.mono ?_
          rintro e w2 ⟨rfl, rfl⟩
          clear hf
          go_wp2_with (fail)
          go_ret
          exact ⟨ret_bool (by rw [HP.out]), HB.out.trans (HBW.out.mono HB.out.size)⟩
        · have d1 : ¬ (nb : Int) ≤ (kk : Int) := by omega
          have HS := Lib.hid (show ∀ j, j < i + 1 → ¬ (D j ≠ 0 ∧ nb ≤ 44 + 28 * j) from fun j hj => by
            by_cases e : j = i
            · subst e; rw [← HKK.out]; exact fun h => hb h.2
            · exact HN.out j (by omega))
          clear hb ez
          go_wp2_with (fail)
          refine hsm.mono ?_
          rintro e w2 ⟨rfl, rfl⟩
          clear hsm
          go_wp2_with (fail)
          refine hf.mono ?_
          rintro e w2 ⟨rfl, rfl⟩
          clear hf
          go_wp2_with (fail)
          go_roundw
          case rel => exact ⟨i + 1, by have := HLT.out; omega, by go_num, HS.out, HBW.out⟩
          case measure => have := HLT.out; simp [RowKit.intOf]; omega
    · have hi28 : i = 28 := by omega
      have k1 : ¬ (i : Int) < 28 := by omega
      have HP := Lib.hid (show pbO D nb = false by
        cases hp : pbO D nb with
        | false => rfl
        | true =>
          obtain ⟨j, h1, h2, h3⟩ := pbO_iff.1 hp
          exact absurd ⟨h2, h3⟩ (HN.out j (by omega)))
      clear hi28 hlt hi
      go_wp2_with (fail)
      go_ret
      exact ⟨ret_bool (by rw [HP.out]), HB.out.trans (HBW.out.mono HB.out.size)⟩

/-- Numbers that are new. -/
def TrP (w : World) (l : List Int) (e : Ending) (w' : World) : Prop := ∃ a' c', e = .returned (.slice a' l.length c') ∧ Ins w' a' l.length l ∧ (a' = none → l.length = 0 ∧ c' = 0) ∧ (∀ x, a' = some x → w.heap.size ≤ x.block ∧ x.block < w'.heap.size) ∧ Below w.heap.size w w'
theorem pcloneI_any (p : Addr) (n c : Nat) (ks : List Int) (w : World) (h : Ins w (some p) n ks) (hn : n ≤ 1000000) :
    Calls Try.prog 168 #[.slice (some p) n c] w (TrP w ks) := by
  have hxa := h.alloc (.cells #[] 3)
  have hl := h.len
  have hq : ∀ (w : World), (binOp .eql 25 (.slice (some p) n c) (.slice none 0 0)).run Try.prog w = .ok (.bool false) w := fun w => Lib.run_eql_slice_nil w _ _ _ _ _ _ _ Try.underlying25
  have HX := Lib.hid hxa
  have HL := Lib.hid hl
  clear h hxa hl
  go_enter Try.func168, Try.ntmps168
  go_wp2_with (at_builtin; go_must (refine wpList_apx rfl (.tmp 5) (.tmp 6) rfl w.heap.size (some p) n c ks rfl rfl (heap_alloc_new w _) HX.out (fun e => by cases e) (by omega) w.heap.size (Nat.le_refl _) w ((Below.refl _ _).alloc (Nat.le_refl _) _) ?_); intro a' c' w1 h1 hn1 h2 hb1; have H1 := Lib.hid h1; have HN1 := Lib.hid hn1; have H2 := Lib.hid h2; have HB1 := Lib.hid hb1; clear h1 hn1 h2 hb1)
  go_ret
  exact ⟨a', c', by rw [HL.out]; rfl, by rw [HL.out]; exact H1.out, by rw [HL.out]; exact HN1.out, H2.out, HB1.out⟩
theorem lst_at {A : List Int} {k m : Nat} (hk : k ≤ m) (h : ∀ i, k ≤ i → i < m → num A i = 0) (h2 : k = 0 ∨ num A (k - 1) ≠ 0) : lst A m = k := by
  induction m with
  | zero => rw [show k = 0 by omega]; rfl
  | succ m ih =>
    by_cases e : k = m + 1
    · subst e
      rcases h2 with h2 | h2
      · omega
      · rw [lst, if_neg (by simpa using h2)]
    · rw [lst, if_pos (h m (by omega) (by omega))]
      exact ih (by omega) (fun i h1 h3 => h i h1 (by omega))
theorem ptrim_any (p : Addr) (n c : Nat) (ks : List Int) (w : World) (h : Ins w (some p) n ks) (hnc : n ≤ c) (hn : n ≤ 828) :
    Calls Try.prog 144 #[.slice (some p) n c] w (TrP w (trm ks)) := by
  have HI := Lib.hid h
  have HL := Lib.hid h.len
  have HN := Lib.hid (And.intro hnc hn)
  clear h
  go_enter Try.func144, Try.ntmps144
  go_wp2_with (fail)
  go_loopw [3] (fun v3 wr => ∃ e : Nat, e ≤ n ∧ v3 = .int .i64 e ∧ (∀ j, e ≤ j → j < n → num ks j = 0) ∧ Below w.heap.size w wr) (fun v3 _ => (RowKit.intOf v3).toNat)
  case atStart => exact ⟨n, Nat.le_refl _, rfl, (fun j h1 h2 => by omega), Below.refl _ _⟩
  case round =>
    obtain ⟨e, he, rfl, hz, hwr⟩ := hrel
    have HBW := Lib.hid hwr
    have HIW := Lib.hid (HI.out.next hwr)
    clear hwr
    have HZ := Lib.hid hz
    clear hz
    by_cases h0 : e = 0
    · have k1 : ¬ (0 : Int) < (e : Int) := by omega
      obtain ⟨T, hT⟩ : ∃ T, T = ks.take e := ⟨_, rfl⟩
      have HT := Lib.hid (show trm ks = T by rw [hT, trm, HL.out, lst_at he HZ.out (.inl h0)])
      have k2 : (0 : Int) ≤ (e : Int) := by omega
      have k3 : (e : Int) ≤ (c : Int) := by omega
      have hcall := pcloneI_any p e c T wr (hT ▸ ⟨by rw [List.length_take, HL.out]; omega, by
        rcases HIW.out.place with h1 | ⟨b, off, ha, hlt, hc⟩
        · exact .inl (by omega)
        · exact .inr ⟨b, off, ha, hlt, fun i hi => by rw [num_take' hi]; exact hc i (by omega)⟩⟩) (by omega)
      clear h0 hT
      go_wp2_with (fail)
      refine hcall.mono ?_
      rintro e2 w2 ⟨a', c', rfl, h1, h2, h3, h4⟩
      have H := Lib.hid (And.intro h1 (And.intro h2 (And.intro h3 h4)))
      clear h1 h2 h3 h4 hcall
      go_wp2_with (fail)
      go_ret
      rw [HT.out]
      exact ⟨a', c', rfl, H.out.1, H.out.2.1, fun x e => ⟨Nat.le_trans HBW.out.size (H.out.2.2.1 x e).1, (H.out.2.2.1 x e).2⟩, HBW.out.trans (H.out.2.2.2.mono HBW.out.size)⟩
    · obtain ⟨m, hm⟩ : ∃ m, e = m + 1 := ⟨e - 1, by omega⟩
      have k1 : (0 : Int) < (e : Int) := by omega
      have v1 : IntKind.i64.wrap ((e : Int) - 1) = (m : Int) := by rw [show (e : Int) - 1 = (m : Int) by omega]; exact IntWalk.i64_in _ (by omega)
      obtain ⟨b, off, ha, hbl, hcs⟩ := HIW.out.at (by omega : 0 < n)
      cases ha
      have hc1 := hcs m (by omega)
      obtain ⟨z, hz⟩ : ∃ z, z = num ks m := ⟨_, rfl⟩
      rw [← hz] at hc1
      have HZZ := Lib.hid hz
      have HM := Lib.hid hm
      have km : (m : Int) < (n : Int) := by omega
      have hsm := pSome_any z wr
      clear hcs hz h0 hm
      by_cases ez : z = 0
      · have d0 : (z != 0) = false := by simp [ez]
        rw [d0] at hsm
        have HS := Lib.hid (show ∀ j, m ≤ j → j < n → num ks j = 0 from fun j h1 h2 => by
          by_cases e9 : j = m
          · subst e9; rw [← HZZ.out]; exact ez
          · exact HZ.out j (by have := HM.out; omega) h2)
        clear ez d0
        go_wp2_with (fail)
        refine hsm.mono ?_
        rintro e2 w2 ⟨rfl, rfl⟩
        clear hsm
        go_wp2_with (fail)
        go_roundw
        case rel => exact ⟨m, by have := HM.out; omega, rfl, HS.out, HBW.out⟩
        case measure => have := HM.out; simp [RowKit.intOf]; omega
      · have d0 : (z != 0) = true := by simp [ez]
        rw [d0] at hsm
        obtain ⟨T, hT⟩ : ∃ T, T = ks.take e := ⟨_, rfl⟩
        have HT := Lib.hid (show trm ks = T by rw [hT, trm, HL.out, lst_at he HZ.out (.inr (by rw [HM.out, Nat.add_sub_cancel, ← HZZ.out]; exact ez))])
        have k2 : (0 : Int) ≤ (e : Int) := by omega
        have k3 : (e : Int) ≤ (c : Int) := by omega
        have hcall := pcloneI_any ⟨b, off, none⟩ e c T wr (hT ▸ ⟨by rw [List.length_take, HL.out]; omega, by
          rcases HIW.out.place with h1 | ⟨b, off, ha, hlt, hc⟩
          · exact .inl (by omega)
          · exact .inr ⟨b, off, ha, hlt, fun i hi => by rw [num_take' hi]; exact hc i (by omega)⟩⟩) (by omega)
        clear ez d0 hT
        go_wp2_with (fail)
        refine hsm.mono ?_
        rintro e2 w2 ⟨rfl, rfl⟩
        clear hsm
        go_wp2_with (fail)
        refine hcall.mono ?_
        rintro e2 w2 ⟨a', c', rfl, h1, h2, h3, h4⟩
        have H := Lib.hid (And.intro h1 (And.intro h2 (And.intro h3 h4)))
        clear h1 h2 h3 h4 hcall
        go_wp2_with (fail)
        go_ret
        rw [HT.out]
        exact ⟨a', c', rfl, H.out.1, H.out.2.1, fun x e => ⟨Nat.le_trans HBW.out.size (H.out.2.2.1 x e).1, (H.out.2.2.1 x e).2⟩, HBW.out.trans (H.out.2.2.2.mono HBW.out.size)⟩
end Go.Proofs.Ytegcjpocdfmpfaa
