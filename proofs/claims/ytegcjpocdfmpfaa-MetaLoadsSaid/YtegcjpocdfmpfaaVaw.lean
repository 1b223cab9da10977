/-
  The program's loader: the list, by contract: the walk.
-/
import Derived.Test.YtegcjpocdfmpfaaVav
import Derived.Defers
import Derived.Recover
import Derived.Laws.Pointers
set_option linter.unusedVariables false
set_option linter.unusedSimpArgs false
set_option maxRecDepth 100000
set_option maxHeartbeats 16000000
namespace Go.Proofs.Ytegcjpocdfmpfaa
open Go.RowKit

theorem isA_geo {S : Sv} {q : Int} (h : isA S.M q = true) : Rt S.d S.r S.s := by
  by_cases hr : Rt S.d S.r S.s
  · exact hr
  · rw [show S.M = 0 from adO_no hr, isA_zero] at h
    cases h
theorem rt_geo {S : Sv} {q : Int} {l l' : List Int} {x : Int × Int} (h : run S.M S.blk (rtP q) l = .ok (x, l')) : Rt S.d S.r S.s ∧ l' = l ++ [q] := by
  rw [rtP, run_rd2] at h
  cases h0 : run S.M S.blk (.rd q .ret) l with
  | error e => rw [h0] at h; cases h
  | ok y =>
    obtain ⟨b, l1⟩ := y
    rw [h0] at h
    dsimp only at h
    have e1 := run_rd_len h0
    refine ⟨?_, ?_⟩
    · rw [run] at h0
      by_cases hA : isA S.M q = true
      · exact isA_geo hA
      · rw [if_neg hA] at h0; cases h0
    · split at h
      · rw [run] at h
        simp only [Except.ok.injEq, Prod.mk.injEq] at h
        rw [← h.2, e1]
      · cases h
theorem rdQ_one {N : Int} {blk : Int → Option (List Int)} {q : Int} {l l' b : List Int} (h : run N blk (rdQ q) l = .ok (b, l')) : l' = l ++ [q] ∧ b.length = 28 := by
  refine ⟨?_, run_rdQ_len h⟩
  rw [run_rdQ] at h
  cases h0 : run N blk (.rd q .ret) l with
  | error e => rw [h0] at h; cases h
  | ok y =>
    obtain ⟨z, l1⟩ := y
    rw [h0] at h
    simp only [Except.ok.injEq, Prod.mk.injEq] at h
    rw [← h.2]
    exact run_rd_len h0
/-- Numbers of the call's own are another's. -/
theorem OwnI.callK {w w' : World} {K : Nat → Prop} {S : Sv} {g : Nat} {v vr : Value} {l : List Int} {h : Bool} {B n : Nat} {ks : List Int} (hO : OwnI w B vr n ks) (H : LdK w K S g v l h) (ht : Turn (Tv g v) w w') (hk : ∀ j, vr.ownBlock = some j → K j) : OwnI w' B vr n ks :=
  hO.turn ht (fun j e h' => by
    rcases h' with e2 | e2
    · exact (H.kk j (hk j e)).2.1 e2
    · exact (H.kk j (hk j e)).2.2 e2)
theorem OwL.callK {w w' : World} {K : Nat → Prop} {S : Sv} {g : Nat} {v vl : Value} {l : List Int} {h : Bool} {B n : Nat} {f : Nat → Nw} (hO : OwL w B vl n f) (H : LdK w K S g v l h) (ht : Turn (Tv g v) w w') (hk : ∀ j, vl.ownBlock = some j → K j) (hf : ∀ i, i < n → ∀ y, (f i).a = some y → K y.block) : OwL w' B vl n f :=
  hO.turn ht (fun j e h' => by
    rcases h' with e2 | e2
    · exact (H.kk j (hk j e)).2.1 e2
    · exact (H.kk j (hk j e)).2.2 e2) (fun i hi y e h' => by
    rcases h' with e2 | e2
    · exact (H.kk _ (hf i hi y e)).2.1 e2
    · exact (H.kk _ (hf i hi y e)).2.2 e2)
theorem ownL_nil (w : World) (B : Nat) (f : Nat → Nw) : OwL w B (.slice none 0 0) 0 f := ⟨⟨rfl, .inl ⟨rfl, rfl⟩⟩, fun i hi => by omega, fun i hi => by omega⟩
theorem Turn.ownK {w w' : World} {u : Value} (h : w.grownBy w' u.ownBlock) : Turn (fun j => u.ownBlock = some j) w w' := Turn.of_grown h (fun b e => e)
/-- The charts, the first i of them. -/
def chs (c d : List Int) (i : Nat) : List Int := if i = 0 then [] else if i = 1 then c else c ++ d
theorem plist_any {Kp : Nat → Prop} (S : Sv) (g : Nat) (v : Value) (l : List Int) (q : Int) (w : World) (H : LdK w Kp S g v l false) (hm : l.length ≤ 10000) :
    Calls Try.prog 63 #[.pointer (some ⟨g, 0, none⟩), .int .i64 q] w (PrP w Kp S g v (run S.M S.blk (loadP S.M q) l) (fun _ => false) valL) := by
  have HH := Lib.hid H
  have HL := Lib.hid hm
  have HG0 := Lib.hid (show S.w0.heap.size ≤ w.heap.size from H.bel.size)
  have hcall := proot_any S g v l false q w H (by omega)
  obtain ⟨R, hR⟩ : ∃ R, R = run S.M S.blk (rtP q) l := ⟨_, rfl⟩
  rw [← hR] at hcall
  have HRE := Lib.hid hR
  clear H hm hR
  cases R with
  | error er =>
    have HE := Lib.hid (show run S.M S.blk (loadP S.M q) l = .error er by rw [loadP_is, run_bindE HRE.out.symm])
    go_enter Try.func63, Try.ntmps63
    go_wp2_with (fail)
    refine hcall.mono ?_
    rintro e w2 ⟨ht, rfl⟩
    exact ⟨rfl, PrP.err HE.out ht⟩
  | ok x =>
    obtain ⟨⟨pc, pd⟩, l1⟩ := x
    obtain ⟨hrt, hl1⟩ := rt_geo HRE.out.symm
    have HRT := Lib.hid hrt
    have HL1 := Lib.hid (show l1.length = l.length + 1 by rw [hl1]; simp)
    have HE := Lib.hid (show run S.M S.blk (loadP S.M q) l = run S.M S.blk (lsK1 S.M (pc, pd)) l1 by rw [loadP_is, run_ok HRE.out.symm])
    clear hrt hl1
    go_enter Try.func63, Try.ntmps63
    go_wp2_with (fail)
    refine hcall.mono ?_
    rintro e w2 ⟨ht, u, v1, rfl, hu, hk, ho⟩
    subst hu
    have HT2 := Lib.hid (show Turn (fun j => Tv g v j ∨ w.heap.size ≤ j) w w2 from ht.mono (fun j e => .inl e))
    have HK2 := Lib.hid hk
    have HO2 := Lib.hid ho
    clear hcall ht hk ho HH
    -- the charts, one behind the other
    have HQ := Lib.hid (show ∀ i, i < 2 → rtG (pc, pd) i = if i = 0 then pc else pd from fun i hi => rfl)
    go_wp2_with (fail)
    go_loopw [5, 7, 8, 15] (fun v5 v7 v8 v15 wr => ∃ (i : Nat) (c d : List Int) (l' : List Int) (vx : Value), i ≤ 2 ∧ v15 = .int .i64 i ∧ (chs c d i).length = 28 * i ∧ c.length = 28 ∧ d.length = 28 ∧
        (i = 0 → run S.M S.blk (loadP S.M q) l = run S.M S.blk (lsK1 S.M (pc, pd)) l') ∧ (i = 1 → run S.M S.blk (loadP S.M q) l = run S.M S.blk (lsK2 S.M pd c) l') ∧ (i = 2 → run S.M S.blk (loadP S.M q) l = run S.M S.blk (lsK3 S.M c d) l') ∧
        l'.length = l.length + 1 + i ∧ LdK wr (fun j => Kp j ∨ v5.ownBlock = some j) S g vx l' false ∧ OwnI wr w.heap.size v5 (28 * i) (chs c d i) ∧ Turn (fun j => Tv g v j ∨ w.heap.size ≤ j) w wr ∧ (∀ j, vx.ownBlock = some j → v.ownBlock = some j ∨ w.heap.size ≤ j)) (fun _ _ _ v15 _ => 2 - (RowKit.intOf v15).toNat)
    case atStart => exact ⟨0, zer, zer, l1, v1, by omega, rfl, rfl, tb_len _, tb_len _, fun _ => HE.out, (fun e => by omega), (fun e => by omega), by have := HL1.out; omega, HK2.out.sub (fun j e => by
      rcases e with e | e
      · exact e
      · cases e), ownI_nil _ _, HT2.out, HO2.out⟩
    case round =>
      obtain ⟨i, c, d, l', vx, hi, rfl, hcl, hc28, hd28, hE0, hE1, hE2, hl', hK, hO5, hT, hO⟩ := hrel
      have HCL := Lib.hid (And.intro hc28 hd28)
      have HE0 := Lib.hid hE0
      have HE1 := Lib.hid hE1
      have HE2 := Lib.hid hE2
      have HLX := Lib.hid hl'
      have HKr := Lib.hid hK
      have HO5 := Lib.hid hO5
      have HTr := Lib.hid hT
      have HOr := Lib.hid hO
      obtain ⟨a5, c5, rfl⟩ := hO5.form
      clear hcl hc28 hd28 hE0 hE1 hE2 hl' hK hO5 hT hO HE HK2 HT2 HO2
      by_cases hlt : i < 2
      · have k1 : (i : Int) < 2 := by omega
        have HLT := Lib.hid hlt
        have hix := fun w => run_idxA 94 2 Try.underlying94 (rtG (pc, pd)) i hlt w
        obtain ⟨pz, hpz⟩ : ∃ p, p = rtG (pc, pd) i := ⟨_, rfl⟩
        rw [← hpz] at hix
        have HXE := Lib.hid (show ∀ er, run S.M S.blk (rdQ pz) l' = .error er → run S.M S.blk (loadP S.M q) l = .error er from fun er he => by
          rcases (by omega : i = 0 ∨ i = 1) with h0 | h0
          · rw [HE0.out h0]
            have e : pz = pc := by rw [hpz, h0]; rfl
            rw [e] at he
            exact run_bindE he
          · rw [HE1.out h0]
            have e : pz = pd := by rw [hpz, h0]; rfl
            rw [e] at he
            exact run_bindE he)
        have HXO := Lib.hid (show ∀ ks l'', run S.M S.blk (rdQ pz) l' = .ok (ks, l'') → ∃ c' d', chs c' d' (i + 1) = chs c d i ++ ks ∧ c'.length = 28 ∧ d'.length = 28 ∧ (i + 1 = 1 → run S.M S.blk (loadP S.M q) l = run S.M S.blk (lsK2 S.M pd c') l'') ∧ (i + 1 = 2 → run S.M S.blk (loadP S.M q) l = run S.M S.blk (lsK3 S.M c' d') l'') from fun ks l'' he => by
          have h28 := (rdQ_one he).2
          rcases (by omega : i = 0 ∨ i = 1) with h0 | h0
          · have e : pz = pc := by rw [hpz, h0]; rfl
            rw [e] at he
            refine ⟨ks, d, by rw [h0]; rfl, h28, HCL.out.2, fun _ => ?_, fun h => by omega⟩
            rw [HE0.out h0]
            exact run_ok he
          · have e : pz = pd := by rw [hpz, h0]; rfl
            rw [e] at he
            refine ⟨c, ks, by rw [h0]; rfl, HCL.out.1, h28, fun h => by omega, fun _ => ?_⟩
            rw [HE1.out h0]
            exact run_ok he)
        have hcall := preadP_any S g vx l' false pz wr HKr.out (by have := HLX.out; have := HL.out; omega)
        obtain ⟨R, hR⟩ : ∃ R, R = run S.M S.blk (rdQ pz) l' := ⟨_, rfl⟩
        rw [← hR] at hcall
        have HR1 := Lib.hid hR
        clear hpz hlt hR HE0 HE1 HE2
        cases R with
        | error er =>
          have HE := Lib.hid (HXE.out er HR1.out.symm)
          go_wp2_with (fail)
          refine hcall.mono ?_
          rintro e w3 ⟨ht, rfl⟩
          exact ⟨rfl, PrP.err HE.out (TvT.fin (HTr.out.stepT ht HOr.out))⟩
        | ok y =>
          obtain ⟨ks, l2⟩ := y
          obtain ⟨c', d', hch, hc', hd', he1, he2⟩ := HXO.out ks l2 HR1.out.symm
          obtain ⟨hl2, hk28⟩ := rdQ_one HR1.out.symm
          have HCH := Lib.hid hch
          have HC' := Lib.hid (And.intro hc' hd')
          have HE1' := Lib.hid he1
          have HE2' := Lib.hid he2
          have HL2 := Lib.hid (show l2.length = l.length + 1 + (i + 1) by rw [hl2, List.length_append, HLX.out]; rfl)
          have HK28 := Lib.hid hk28
          have HKS := Lib.hid (show (List.range 28).map (fun i => num ks (0 + i)) = ks from num_ext (by simp [hk28]) (fun j hj => by
            have hj' : j < 28 := by simpa using hj
            simp [num, List.getD, hj']))
          clear hch hc' hd' he1 he2 hl2 hk28
          go_wp2_with (fail)
          refine hcall.mono ?_
          rintro e w3 ⟨ht, u, v2, rfl, hu, hk, ho⟩
          subst hu
          obtain ⟨w4, hw4⟩ : ∃ w4, w4 = w3.alloc (.cells (arr 28 noA) 91 (0, 0)) := ⟨_, rfl⟩
          have hb4 : Below w3.heap.size w3 w4 := by rw [hw4]; exact (Below.refl _ _).alloc (Nat.le_refl _) _
          have hr4 : w4.heap[w3.heap.size]? = some (pgO' noA) := by rw [hw4]; exact heap_alloc_new w3 _
          have HO4 := Lib.hid ((HO5.out.callK HKr.out ht (fun j e => .inr e)).turn (M := fun _ => False) (Turn.of_below hb4) (fun j e h => h))
          have HK4 := Lib.hid (show LdK w4 (fun j => (Kp j ∨ (Value.slice a5 (28 * i) c5).ownBlock = some j) ∨ j = w3.heap.size) S g v2 l2 false from hk.box hb4 (b := w3.heap.size) (Nat.le_refl _) (lt_of_block hr4) (fun j e => e))
          have HT4 := Lib.hid ((HTr.out.stepT ht HOr.out).trans (Turn.of_below hb4))
          have HO2 := Lib.hid (ho_step HTr.out HOr.out ho)
          have HR4 := Lib.hid hr4
          have HW4 := Lib.hid hw4
          have HN4 := Lib.hid (show ∀ j, (Value.slice a5 (28 * i) c5).ownBlock = some j → j ≠ w3.heap.size from fun j e => by
            have := (hk.kk j (.inr e)).1
            omega)
          have HG4 := Lib.hid (show S.w0.heap.size ≤ w3.heap.size from Nat.le_trans hk.bel.size (Nat.le_refl _))
          have HWS := Lib.hid (show w.heap.size ≤ w3.heap.size from Nat.le_trans HTr.out.size ht.size)
          clear hcall ht hk ho hw4 hb4 hr4 HO5 HKr HTr HOr
          go_upto_region 6 with (first
            | (refine wpList_alA ar28 (by rfl) rfl ?_; rw [← HW4.out])
            | (refine wpList_stA ar28 (by rfl) (.tmp 8) (.tmp 20) rfl w3.heap.size rfl (num ks) noA rfl HR4.out ?_; intro w5 h5 o5 b5)
            | fail)
          have ht5 : Turn (· = w3.heap.size) w4 w5 := ⟨(b5 _ _ (Nat.le_refl _) (Below.refl _ _)).os, (b5 _ _ (Nat.le_refl _) (Below.refl _ _)).tape, (b5 _ _ (Nat.le_refl _) (Below.refl _ _)).output, (b5 _ _ (Nat.le_refl _) (Below.refl _ _)).size, fun k _ hk => o5 k hk⟩
          have HK5 := Lib.hid (show LdK w5 (fun j => (Kp j ∨ (Value.slice a5 (28 * i) c5).ownBlock = some j) ∨ j = w3.heap.size) S g v2 l2 false from HK4.out.set ht5 (.inr rfl) HG4.out)
          have HO5' := Lib.hid (HO4.out.turn ht5 (fun j e h' => HN4.out j e h'))
          have HT5 := Lib.hid (HT4.out.trans2 ht5 (fun j e => .inr (by rw [e]; exact HWS.out)))
          have HI5 := Lib.hid (show Ins w5 (some ⟨w3.heap.size, 0, none⟩) 28 ks from by
            have := ins_arr h5 (o := 0) (m := 28) (by omega)
            rw [HKS.out] at this
            exact this)
          have HZ5 := Lib.hid (show w.heap.size ≤ w5.heap.size from HT5.out.size)
          clear h5 o5 b5 ht5 HO4 HK4 HT4 HR4 HW4 hix
          go_wp2_with (at_builtin; go_must (refine wpList_apq rfl (.tmp 21) (.tmp 22) rfl w.heap.size (Value.slice a5 (28 * i) c5) (28 * i) (chs c d i) rfl HO5'.out (some ⟨w3.heap.size, 0, none⟩) 28 28 ks rfl HI5.out (fun h => by cases h) (by have := HLT.out; omega) HZ5.out ?_); intro v6 w6 hO6 hG6 hv6; obtain ⟨a6, c6, rfl⟩ := hO6.form; have HO6 := Lib.hid hO6; have HG6 := Lib.hid hG6; have HV6 := Lib.hid hv6; clear hO6 hG6 hv6)
          go_roundw
          case rel =>
            have ht6 := Turn.ownK HG6.out
            refine ⟨i + 1, c', d', l2, v2, by have := HLT.out; omega, by go_num, ?_, HC'.out.1, HC'.out.2, fun e => by omega, HE1'.out, HE2'.out, HL2.out, HK5.out.grown ht6 (fun j e => ⟨.inl (.inr e), ?_⟩) (fun j e => ?_), ?_, HT5.out.trans2 ht6 (fun j e => .inr ?_), HO2.out⟩
            · have h1 := HO6.out.1
              rw [HCH.out, List.length_append, HK28.out]
              have h2 := HO5'.out.1
              simp at h2
              omega
            · exact Nat.le_trans HG0.out (World.ownsRow.lt HO5'.out j e).1
            · rcases e with e | e
              · exact .inl (.inl (.inl e))
              · rcases HV6.out with e2 | e2
                · exact .inl (.inl (.inr (by rw [← e2]; exact e)))
                · rw [e2] at e
                  have e3 := Option.some.inj e
                  refine .inr ⟨by omega, ?_⟩
                  have := (World.ownsRow.lt HO6.out j (by rw [e2, e3])).2
                  exact this
            · rw [HCH.out, show 28 * (i + 1) = 28 * i + 28 by omega]
              exact HO6.out
            · exact (World.ownsRow.lt HO5'.out j e).1
          case measure => have := HLT.out; simp [RowKit.intOf]; omega
      · have hi2 : i = 2 := by omega
        have k1 : ¬ (i : Int) < 2 := by omega
        have hE := HE2.out hi2
        rw [hi2] at HO5 HLX
        have hch : chs c d 2 = c ++ d := rfl
        rw [hch, show 28 * 2 = 56 from rfl] at HO5
        rw [hi2, show 28 * 2 = 56 from rfl] at HKr ⊢
        clear HE0 HE1 HE2 hi2 hlt hi hch
        obtain ⟨ch, hch⟩ : ∃ ch, ch = c ++ d := ⟨_, rfl⟩
        rw [← hch] at HO5
        have HE3 := Lib.hid (show run S.M S.blk (loadP S.M q) l = run S.M S.blk ((nsP S.M ch (56 - 0) 0 (lnL (fun _ => noN) 0) false).bind (lsK S.M)) l' by rw [hE, lsK3, hch]; rfl)
        have HCH := Lib.hid (show ch.length = 56 by rw [hch, List.length_append, HCL.out.1, HCL.out.2])
        clear hE hch HCL
        obtain ⟨vr, hvr⟩ : ∃ v : Value, v = .slice a5 56 c5 := ⟨_, rfl⟩
        obtain ⟨_, _, e9, hir, _⟩ := HO5.out.ins
        cases e9
        have HI5 := Lib.hid hir
        have HVR := Lib.hid hvr
        rw [← hvr] at HO5 HKr
        clear hir
        rw [hvr] at HVR
        go_wp2_with (fail)
        go_loopw [9, 10, 11, 27] (fun v9 v10 v11 v27 wr' => ∃ (i n : Nat) (f : Nat → Nw) (vx : Value) (l' : List Int) (h : Bool), i ≤ 56 ∧ n ≤ i ∧ v27 = .int .i64 i ∧ run S.M S.blk (loadP S.M q) l = run S.M S.blk ((nsP S.M ch (56 - i) i (lnL f n) h).bind (lsK S.M)) l' ∧ l'.length ≤ l.length + 3 + 31 * i ∧
          LdK wr' (K3 Kp vr v9 n f) S g vx l' h ∧ OwnI wr' w.heap.size vr 56 ch ∧ OwL wr' w.heap.size v9 n f ∧ (∀ j, vr.ownBlock = some j → v9.ownBlock ≠ some j) ∧ Turn (fun j => Tv g v j ∨ w.heap.size ≤ j) w wr' ∧ (∀ j, vx.ownBlock = some j → v.ownBlock = some j ∨ w.heap.size ≤ j)) (fun _ _ _ v27 _ => 56 - (RowKit.intOf v27).toNat)
        case atStart => exact ⟨0, 0, fun _ => noN, vx, l', false, by omega, by omega, rfl, HE3.out, by have := HLX.out; omega, HKr.out.sub (fun j e => by
          rcases e with e | e | e | ⟨i, h, _⟩
          · exact .inl e
          · exact .inr e
          · cases e
          · omega), HO5.out, ownL_nil _ _ _, (fun j e e2 => by cases e2), HTr.out, HOr.out⟩
        case round =>
          obtain ⟨i, n, f, vx2, l2, h, hi, hni, rfl, hE, hl2, hK, hO5, hOL, hap, hT, hO⟩ := hrel
          obtain ⟨a9, c9, rfl, hnws, _⟩ := hOL.nws
          have HE := Lib.hid hE
          have HLX2 := Lib.hid hl2
          have HK := Lib.hid hK
          have HO5r := Lib.hid hO5
          have HOL := Lib.hid hOL
          have HAP := Lib.hid hap
          have HT := Lib.hid hT
          have HOx := Lib.hid hO
          have HNWS := Lib.hid hnws
          have HNI := Lib.hid hni
          clear hE hl2 hK hO5 hOL hap hT hO hnws hni HE3 HKr HO5 HTr HOr HI5 HLX
          by_cases hlt : i < 56
          · have k1 : (i : Int) < 56 := by omega
            have HLT := Lib.hid hlt
            have hic := HO5r.out
            rw [hvr] at hic
            obtain ⟨_, _, e9, hir, _⟩ := hic.ins
            cases e9
            obtain ⟨bb, off, rfl, hbl, hcs⟩ := hir.at (by omega)
            have hc1 := hcs i hlt
            obtain ⟨z, hz⟩ : ∃ z, z = num ch i := ⟨_, rfl⟩
            rw [← hz] at hc1
            have HES := Lib.hid (show run S.M S.blk (loadP S.M q) l = run S.M S.blk ((if z = 0 then nsP S.M ch (56 - (i + 1)) (i + 1) (lnL f n) h else (ndP S.M ((i : Int) + 1) z).bind fun p => nsP S.M ch (56 - (i + 1)) (i + 1) (lnL f n ++ [p.1]) (h || p.2)).bind (lsK S.M)) l2 by
              rw [HE.out, nsP_succ _ _ hlt, ← hz])
            clear hic hir hbl hcs hz hlt HE
            have hsm := pSome_any z wr
            by_cases ez : z = 0
            · have d0 : (z != 0) = false := by simp [ez]
              rw [d0] at hsm
              have HE2 := Lib.hid (show run S.M S.blk (loadP S.M q) l = run S.M S.blk ((nsP S.M ch (56 - (i + 1)) (i + 1) (lnL f n) h).bind (lsK S.M)) l2 by rw [HES.out, if_pos ez])
              clear ez d0
              go_wp2_with (fail)
              refine hsm.mono ?_
              rintro e w3 ⟨rfl, rfl⟩
              clear hsm
              go_wp2_with (fail)
              go_roundw
              case rel => exact ⟨i + 1, n, f, vx2, l2, h, by have := HLT.out; omega, by have := HNI.out; omega, by go_num, HE2.out, by have := HLX2.out; omega, HK.out, HO5r.out, HOL.out, HAP.out, HT.out, HOx.out⟩
              case measure => have := HLT.out; simp [RowKit.intOf]; omega
            · have d0 : (z != 0) = true := by simp [ez]
              rw [d0] at hsm
              have HE2 := Lib.hid (show run S.M S.blk (loadP S.M q) l = run S.M S.blk (((ndP S.M ((i : Int) + 1) z).bind fun p => nsP S.M ch (56 - (i + 1)) (i + 1) (lnL f n ++ [p.1]) (h || p.2)).bind (lsK S.M)) l2 by rw [HES.out, if_neg ez])
              have v1 : IntKind.i64.wrap ((i : Int) + 1) = (i : Int) + 1 := IntWalk.i64_in _ (by omega)
              have hcall := pnodeL_any S g vx2 l2 h ((i : Int) + 1) z wr HK.out (by have := HLX2.out; have := HL.out; have := HLT.out; omega)
              obtain ⟨R, hR⟩ : ∃ R, R = run S.M S.blk (ndP S.M ((i : Int) + 1) z) l2 := ⟨_, rfl⟩
              rw [← hR] at hcall
              have HR1 := Lib.hid hR
              clear ez d0 hR HES
              cases R with
              | error er =>
                have HE3 := Lib.hid (show run S.M S.blk (loadP S.M q) l = .error er by rw [HE2.out, run_err2 HR1.out.symm])
                go_wp2_with (fail)
                refine hsm.mono ?_
                rintro e w3 ⟨rfl, rfl⟩
                clear hsm
                go_wp2_with (fail)
                refine hcall.mono ?_
                rintro e w3 ⟨ht, rfl⟩
                exact ⟨rfl, PrP.err HE3.out (TvT.fin (HT.out.stepT ht HOx.out))⟩
              | ok yy =>
                obtain ⟨p, l3⟩ := yy
                have HL3 := Lib.hid (show l3.length ≤ l.length + 3 + 31 * (i + 1) by
                  have h1 := run_ndP_len HR1.out.symm
                  have h2 := HLX2.out
                  omega)
                have HE3 := Lib.hid (show run S.M S.blk (loadP S.M q) l = run S.M S.blk ((nsP S.M ch (56 - (i + 1)) (i + 1) (lnL f n ++ [p.1]) (h || p.2)).bind (lsK S.M)) l3 by rw [HE2.out, run_ok2 HR1.out.symm])
                go_wp2_with (fail)
                refine hsm.mono ?_
                rintro e w3 ⟨rfl, rfl⟩
                clear hsm
                go_wp2_with (fail)
                refine hcall.mono ?_
                rintro e w3 ⟨ht, y, v3, rfl, hok, hnd, hnew, hk, ho⟩
                obtain ⟨w4, hw4⟩ : ∃ w4, w4 = w3.alloc (.cells #[.int .i64 y.ino, .int .i64 y.kind, .int .i64 y.links, .int .i64 y.size, .slice y.a y.n y.c] 83 (0, 0)) := ⟨_, rfl⟩
                have hb4 : Below w3.heap.size w3 w4 := by rw [hw4]; exact (Below.refl _ _).alloc (Nat.le_refl _) _
                have hr4 : w4.heap[w3.heap.size]? = some (.cells (nwC y) 83 (0, 0)) := by rw [hw4]; exact heap_alloc_new w3 _
                have HO54 := Lib.hid ((HO5r.out.callK HK.out ht (fun j e => .inr (.inl e))).turn (M := fun _ => False) (Turn.of_below hb4) (fun j e h => h))
                have HOL4 := Lib.hid ((HOL.out.callK HK.out ht (fun j e => .inr (.inr (.inl e))) (fun i hi y e => .inr (.inr (.inr ⟨i, hi, y, e, rfl⟩)))).next hb4)
                have HK4 := Lib.hid (hk.next hb4)
                have HT4 := Lib.hid ((HT.out.stepT ht HOx.out).trans (Turn.of_below hb4))
                have HO4 := Lib.hid (ho_step HT.out HOx.out ho)
                have HY4 := Lib.hid (hok.next hb4)
                have HND := Lib.hid hnd
                have HYA := Lib.hid (show ∀ x, y.a = some x → (Value.slice a9 n c9).ownBlock ≠ some x.block ∧ x.block < w4.heap.size from fun x e => by
                  have h1 := hnew x e
                  refine ⟨fun e2 => ?_, Nat.lt_of_lt_of_le h1.2 hb4.size⟩
                  have := (World.ownsRow.lt HOL.out.row _ e2).2
                  omega)
                have HR4 := Lib.hid hr4
                have HW4 := Lib.hid hw4
                clear hcall ht hok hnd hnew hk ho hw4 hb4 hr4 v1 hc1
                go_wp2_with (at_builtin; go_must (rw [← HW4.out]; refine wpList_apN rfl (.tmp 34) (.tmp 40) rfl w.heap.size (Value.slice a9 n c9) n f rfl HOL4.out w3.heap.size rfl y HY4.out HYA.out HR4.out (by have := HNI.out; have := HLT.out; omega) HT4.out.size ?_); intro v6 w6 hO6 hG6 hv6; obtain ⟨a6, c6, e6, _⟩ := hO6.nws; subst e6; have HO6 := Lib.hid hO6; have HG6 := Lib.hid hG6; have HV6 := Lib.hid hv6; clear hO6 hG6 hv6)
                go_roundw
                case rel =>
                  have ht6 := Turn.ownK HG6.out
                  refine ⟨i + 1, n + 1, snN f n y, v3, l3, h || p.2, by have := HLT.out; omega, by have := HNI.out; omega, by go_num, by rw [lnL_snoc, HND.out]; exact HE3.out, HL3.out, HK4.out.grown ht6 (fun j e => ⟨.inl (.inr (.inr (.inl e))), ?_⟩) (fun j e => ?_), HO54.out.turn ht6 (fun j e e2 => ?_), HO6.out, ?_, HT4.out.trans2 ht6 (fun j e => .inr ?_), HO4.out⟩
                  · exact Nat.le_trans HG0.out (World.ownsRow.lt HOL4.out.row j e).1
                  · rcases e with e | e | e | ⟨k, hk, x, e, e2⟩
                    · exact .inl (.inl (.inl e))
                    · exact .inl (.inl (.inr (.inl e)))
                    · rcases HV6.out with e2 | e2
                      · exact .inl (.inl (.inr (.inr (.inl (by rw [← e2]; exact e)))))
                      · rw [e2] at e
                        have e3 := Option.some.inj e
                        refine .inr ⟨by omega, ?_⟩
                        exact (World.ownsRow.lt HO6.out.row j (by rw [e2, e3])).2
                    · by_cases hkn : k = n
                      · rw [snN, if_pos hkn] at e
                        exact .inl (.inr ⟨x, e, e2⟩)
                      · rw [snN, if_neg hkn] at e
                        exact .inl (.inl (.inr (.inr (.inr ⟨k, by omega, x, e, e2⟩))))
                  · exact HAP.out j e e2
                  · intro j e e2
                    rcases HV6.out with e3 | e3
                    · exact HAP.out j e (by rw [← e3]; exact e2)
                    · rw [e3] at e2
                      have e4 := Option.some.inj e2
                      have := (World.ownsRow.lt HO54.out j e).2
                      omega
                  · exact (World.ownsRow.lt HOL4.out.row j e).1
                case measure => have := HLT.out; simp [RowKit.intOf]; omega
          · have hi56 : i = 56 := by omega
            have k1 : ¬ (i : Int) < 56 := by omega
            have HFIN := Lib.hid (show run S.M S.blk (loadP S.M q) l = if (h || !mrO S.d S.r S.s (lnL f n)) = true then .error 15 else .ok (lnL f n, l2) by
              have h1 := HE.out
              rw [hi56] at h1
              have h2 : run S.M S.blk ((nsP S.M ch (56 - 56) 56 (lnL f n) h).bind (lsK S.M)) l2 = run S.M S.blk (lsK S.M (lnL f n, h)) l2 := rfl
              have h3 : mrO S.d S.r S.s (lnL f n) = lrO S.M (lnL f n) := by
                rw [mrO, geoO_iff.2 HRT.out, show S.M = adN S.d S.r S.s from adO_yes HRT.out]; rfl
              rw [h1, h2, lsK, h3]
              dsimp only
              cases (h || !lrO S.M (lnL f n)) with
              | true => rfl
              | false => rfl)
            obtain ⟨⟨c0, c1, c2⟩, c3, c4, c5', lt0⟩ := HK.out.cells
            have HNB := Lib.hid (show n ≤ 56 by have := HNI.out; omega)
            clear hi56 hlt hi HE c3 c4
            cases h with
            | true =>
              have HE2 := Lib.hid (show run S.M S.blk (loadP S.M q) l = .error 15 by rw [HFIN.out]; rfl)
              go_wp2_with (fail)
              refine (refuse_yes wr).mono ?_
              rintro e w3 ⟨rfl, rfl⟩
              exact ⟨rfl, PrP.err HE2.out (TvT.fin HT.out)⟩
            | false =>
              have hcall := pmr_any S.d S.r S.s a9 n c9 f wr HNWS.out (by have := HNB.out; omega)
              obtain ⟨t, ht⟩ : ∃ t, t = mrO S.d S.r S.s (lnL f n) := ⟨_, rfl⟩
              rw [← ht] at hcall HFIN
              go_wp2_with (fail)
              refine hcall.mono ?_
              rintro e w3 ⟨rfl, hb⟩
              have HK3 := Lib.hid (HK.out.next hb)
              have HOL3 := Lib.hid (HOL.out.next hb)
              have HT3 := Lib.hid (HT.out.trans (Turn.of_below hb))
              clear hb hcall ht c0 c1 c2 c5' lt0
              cases t with
              | false =>
                have HE2 := Lib.hid (show run S.M S.blk (loadP S.M q) l = .error 15 by rw [HFIN.out]; rfl)
                go_wp2_with (fail)
                refine (refuse_yes w3).mono ?_
                rintro e w4 ⟨rfl, rfl⟩
                exact ⟨rfl, PrP.err HE2.out (TvT.fin HT3.out)⟩
              | true =>
                have HE2 := Lib.hid (show run S.M S.blk (loadP S.M q) l = .ok (lnL f n, l2) by rw [HFIN.out]; rfl)
                go_wp2_with (fail)
                refine (refuse_no w3).mono ?_
                rintro e w4 ⟨rfl, rfl⟩
                go_wp2_with (fail)
                go_ret
                obtain ⟨a7, c7, e7, hn7, _⟩ := HOL3.out.nws
                cases e7
                exact PrP.ok HE2.out (TvT.fin HT3.out) ⟨_, _, _, f, rfl, hn7, HOL3.out.each, rfl⟩ (HK3.out.sub (fun j e => .inl e)) HOx.out

/-- The closure, where the frame below panics: the error is laid. -/
theorem catch_pan (p : Addr) (x er : Int) (older : List PanicEntry) (w : World) (hc : w.cell? p = some (.int .i64 x)) (hz : w.frozen? p = false) :
    CallsD Try.prog 62 #[.pointer (some p)] (.panicking ({ v := .iface 44 (.int .i64 er), recovered := false } :: older)) w fun e u' w' =>
      e = .returned (.tuple #[]) ∧ u' = .panicking ({ v := .iface 44 (.int .i64 er), recovered := true } :: older) ∧ w' = w.setCell p (.int .i64 er) := by
  refine callsD_of_wpS Try.func62 rfl fun c₀ cs hu => ?_
  apply wpS_seq
  apply wpS_region
  simp [wpOpsS, go_sem, recoverD, hu, Try.ntmps62, Exit.thenS]
  apply wpS_seq
  apply wpS_region
  have hne : ∀ (w : World), (binOp .neq 20 (.iface 44 (.int .i64 er)) .nilIface).run Try.prog w = .ok (.bool true) w := fun _ => by kernel_rfl
  have hta : ∀ (w : World), (Instr.typeAssert (.iface 44 (.int .i64 er)) 20 44 false).run Try.prog w = .ok (.int .i64 er) w := fun _ => by kernel_rfl
  simp [wpOpsS, go_sem, Exit.thenS, hne, Act.eval, Array.replicate]
  refine wpS_cond (t := true) (by simp [Act.eval]) ?_
  simp only [if_true]
  apply wpS_region
  simp [wpOpsS, go_sem, hc, hz, hta, Act.eval, bodyPostS, results, Try.results62]
theorem catch_idle (p : Addr) (w : World) :
    CallsD Try.prog 62 #[.pointer (some p)] .returning w fun e u' w' => e = .returned (.tuple #[]) ∧ u' = .returning ∧ w' = w := by
  refine callsD_of_wpS Try.func62 rfl fun c₀ cs hu => ?_
  apply wpS_seq
  apply wpS_region
  simp [wpOpsS, go_sem, recoverD, hu, Try.ntmps62, Exit.thenS]
  apply wpS_seq
  apply wpS_region
  have hne : ∀ (w : World), (binOp .neq 20 .nilIface .nilIface).run Try.prog w = .ok (.bool false) w := fun _ => by kernel_rfl
  simp [wpOpsS, go_sem, Exit.thenS, hne, Act.eval, Array.replicate]
  refine wpS_cond (t := false) (by simp [Act.eval]) ?_
  simp only [Bool.false_eq_true, if_false]
  refine wpS_of_wp (wp_skip ?_)
  cases c₀
  simp_all [bodyPostS, results, Try.results62]
theorem pload_any (d r s : Int) (p : Nat) (A : Option Addr) (nA cA : Nat) (Dt : Option Addr) (nD cD : Nat) (ks : List Int) (f : Nat → Pc) (root : Int) (w : World) (h : Sto w p A nA cA Dt nD cD ks f) :
    Calls Try.prog 25 #[gv d r s, .iface 41 (.pointer (some ⟨p, 0, none⟩)), .int .i64 root] w (LdP w (ldR (adO d r s) (blkF ks f) root)) := by
  have hmf := hmf
  obtain ⟨S, hS⟩ : ∃ S : Sv, S = ⟨d, r, s, p, A, nA, cA, Dt, nD, cD, ks, f, w⟩ := ⟨_, rfl⟩
  obtain ⟨w1, hw1⟩ : ∃ w1, w1 = w.alloc (.cells #[.int .i64 d, .int .i64 r, .int .i64 s] 23 (0, 0)) := ⟨_, rfl⟩
  obtain ⟨w2, hw2⟩ : ∃ w2, w2 = w1.alloc (.cells #[.int .i64 0] 44 (0, 0)) := ⟨_, rfl⟩
  obtain ⟨w3, hw3⟩ : ∃ w3, w3 = w2.alloc (.cells #[.int .i64 d, .int .i64 r, .int .i64 s, .iface 41 (.pointer (some ⟨p, 0, none⟩)), .slice none 0 0, .bool false] 110 (0, 0)) := ⟨_, rfl⟩
  have hb1 : Below w.heap.size w w1 := by rw [hw1]; exact (Below.refl _ _).alloc (Nat.le_refl _) _
  have hb2 : Below w1.heap.size w1 w2 := by rw [hw2]; exact (Below.refl _ _).alloc (Nat.le_refl _) _
  have hb3 : Below w2.heap.size w2 w3 := by rw [hw3]; exact (Below.refl _ _).alloc (Nat.le_refl _) _
  have hz1 : w1.heap.size = w.heap.size + 1 := by rw [hw1]; simp
  have hz2 : w2.heap.size = w.heap.size + 2 := by rw [hw2]; simp [hz1]
  have hz2' : w2.heap.size = w.heap.size + 1 + 1 := by omega
  obtain ⟨b8, hb8⟩ : ∃ b, b = w.heap.size + 1 := ⟨_, rfl⟩
  obtain ⟨g, hg⟩ : ∃ b, b = w.heap.size + 1 + 1 := ⟨_, rfl⟩
  have hr8 : w3.heap[b8]? = some (.cells #[.int .i64 0] 44 (0, 0)) := by
    rw [hb3.block _ (by omega), hw2, hb8, ← hz1]; exact heap_alloc_new w1 _
  have hrg : w3.heap[g]? = some (.cells #[.int .i64 d, .int .i64 r, .int .i64 s, .iface 41 (.pointer (some ⟨p, 0, none⟩)), .slice none 0 0, .bool false] 110 (0, 0)) := by
    rw [hw3, hg, ← hz2']; exact heap_alloc_new w2 _
  have hB : Below w.heap.size w w3 := (hb1.trans (hb2.mono hb1.size)).trans (hb3.mono (by omega))
  have HK := Lib.hid (show LdK w3 (fun j => j = b8) S g (.slice none 0 0) [] false from by
    rw [hS]
    exact ⟨hrg, ownI_nil _ _, h, hB, by show w.heap.size ≤ g; omega, (by intro e; cases e), fun j e => ⟨by rw [e]; exact lt_of_block hr8, by omega, (by intro e; cases e)⟩⟩)
  have HR8 := Lib.hid hr8
  have HB := Lib.hid hB
  have HN := Lib.hid (show w.heap.size ≤ b8 ∧ w.heap.size ≤ g by omega)
  have HW1 := Lib.hid hw1
  have HW2 := Lib.hid hw2
  have HW3 := Lib.hid hw3
  have HB8 := Lib.hid hb8
  have HGE := Lib.hid hg
  have hcall := plist_any S g (.slice none 0 0) [] root w3 HK.out (by simp)
  have HLD := Lib.hid (show run S.M S.blk (loadP S.M root) [] = ldR (adO d r s) (blkF ks f) root by rw [hS]; rfl)
  rw [HLD.out] at hcall
  obtain ⟨R, hR⟩ : ∃ R, R = ldR (adO d r s) (blkF ks f) root := ⟨_, rfl⟩
  rw [← hR] at hcall ⊢
  have HS := Lib.hid (show S.w0 = w by rw [hS])
  clear hS hw1 hw2 hw3 hb1 hb2 hb3 hz1 hz2 hb8 hg hr8 hrg hB hR h HLD
  cases R with
  | error er =>
    go_enter_defers Try.func25, Try.ntmps25
    go_wp2_with (fail)
    rw [← HW1.out, ← HW2.out, ← HW3.out, ← HGE.out, ← HB8.out]
    refine hcall.mono ?_
    rintro e w4 ⟨ht, rfl⟩
    have hr := HK.out.keep ht rfl HR8.out
    have hc : w4.cell? ⟨b8, 0, none⟩ = some (.int .i64 0) := cell_of_row w4 b8 0 _ _ (0, 0) hr
    have hz : w4.frozen? ⟨b8, 0, none⟩ = false := frozen_of_row w4 b8 0 _ _ hr
    have hb4 : Below w.heap.size w w4 := HB.out.trans (ht.below HB.out.size (fun j e => by
      rcases e with e | e
      · rw [e]; exact HN.out.2
      · cases e))
    refine leaves_cons (f := 62) (args := #[.pointer (some ⟨b8, 0, none⟩)]) (by simp) (by simp [go_sem]) ?_
    refine (catch_pan ⟨b8, 0, none⟩ 0 er [] w4 hc hz).mono ?_
    rintro e u' w5 ⟨rfl, rfl, rfl⟩
    have hc2 : (w4.setCell ⟨b8, 0, none⟩ (.int .i64 er)).cell? ⟨b8, 0, none⟩ = some (.int .i64 er) := World.cell?_setCell_same _ _ _ hc
    have hfin : LdP w (.error er) (.returned (.tuple #[.slice none 0 0, .slice none 0 0, .int .i64 er])) (w4.setCell ⟨b8, 0, none⟩ (.int .i64 er)) := ⟨hb4.setCell HN.out.1 _, rfl⟩
    simp [Leaves, settle, results, Try.results25, go_sem, hc2]
    exact hfin
  | ok x =>
    obtain ⟨L, l⟩ := x
    go_enter_defers Try.func25, Try.ntmps25
    go_wp2_with (fail)
    rw [← HW1.out, ← HW2.out, ← HW3.out, ← HGE.out, ← HB8.out]
    refine hcall.mono ?_
    rintro e w4 ⟨ht, u, v', rfl, ⟨an, nn, cn, fn, rfl, hnw, hok, hln⟩, hk, ho⟩
    have hr := HK.out.keep ht rfl HR8.out
    have HR4 := Lib.hid hr
    have HB4 := Lib.hid (show Below w.heap.size w w4 from HB.out.trans (ht.below HB.out.size (fun j e => by
      rcases e with e | e
      · rw [e]; exact HN.out.2
      · cases e)))
    have HK4 := Lib.hid hk
    have HNW := Lib.hid (And.intro hnw (And.intro hok hln))
    obtain ⟨av, cv, rfl⟩ := hk.form
    have c4 := hk.cells.2.2.1
    clear hcall hr ht hk ho hnw hok hln
    have r0 : w4.cell? ⟨b8, 0, none⟩ = some (.int .i64 0) := cell_of_row w4 b8 0 _ _ (0, 0) HR4.out
    have r1 : w4.frozen? ⟨b8, 0, none⟩ = false := frozen_of_row w4 b8 0 _ _ HR4.out
    have r2 := lt_of_block HR4.out
    have r3 := lt_of_block HK4.out.row
    go_upto_region 4 with fail
    go_region
    go_wp2_with (fail)
    have hsame : Below w4.heap.size w4 (w4.setCell ⟨b8, 0, none⟩ (.int .i64 0)) := by
      refine ⟨rfl, rfl, rfl, by simp [World.setCell], fun k hk => ?_⟩
      by_cases e : k = b8
      · subst e
        rw [heap_setCell_same w4 k 0 _ _ _ HR4.out, HR4.out]
        rfl
      · exact heap_setCell_other w4 ⟨b8, 0, none⟩ k _ e
    obtain ⟨w5, hw5⟩ : ∃ w5, w5 = (w4.setCell ⟨b8, 0, none⟩ (.int .i64 0)).drew := ⟨_, rfl⟩
    have hb5 : Below w4.heap.size w4 w5 := by rw [hw5]; exact below_drewN hsame 1
    have hc2 : (w4.setCell ⟨b8, 0, none⟩ (.int .i64 0)).cell? ⟨b8, 0, none⟩ = some (.int .i64 0) := World.cell?_setCell_same _ _ _ r0
    have hfin : LdP w (.ok (L, l)) (.returned (.tuple #[.slice an nn cn, .slice av l.length cv, .int .i64 0])) w5 := by
      obtain ⟨_, _, e9, hi9, _⟩ := HK4.out.own.ins
      cases e9
      exact ⟨HB4.out.trans (hb5.mono HB4.out.size), an, nn, cn, av, cv, fn, rfl, HNW.out.1.next hb5, fun i hi => (HNW.out.2.1 i hi).next hb5, HNW.out.2.2, hi9.next hb5⟩
    refine leaves_cons (f := 62) (args := #[.pointer (some ⟨b8, 0, none⟩)]) (by simp) (by simp [go_sem]) ?_
    refine (catch_idle ⟨b8, 0, none⟩ _).mono ?_
    rintro e u' w6 ⟨rfl, rfl, rfl⟩
    simp [Leaves, settle, results, Try.results25, go_sem, hc2, Result.andThen]
    rw [← hw5]
    exact hfin

theorem som_allZ (f : Nat → Int) : som (tb f) = !allZ 28 f := by
  cases h : allZ 28 f with
  | true =>
    rw [allZ_iff] at h
    cases hs : som (tb f) with
    | false => rfl
    | true =>
      obtain ⟨i, hi, hne⟩ := som_tb.1 hs
      exact absurd (h i hi) hne
  | false =>
    cases hs : som (tb f) with
    | true => rfl
    | false =>
      rw [allZ_iff.2 fun i hi => som_no hs hi] at h
      cases h
/-- Double's pointers, when k of them are laid. -/
def dF (at' : Nat → Int) (n : Nd) (m k : Nat) : Nat → Int := fun j => if j < k ∧ dS n.ads j = true then at' (m + dI n j) else 0
theorem dF_tb (at' : Nat → Int) (n : Nd) (m k : Nat) : tb (dF at' n m k) = dP at' n m k := rfl
theorem dF_zero (at' : Nat → Int) (n : Nd) (m : Nat) : dF at' n m 0 = noA := by
  funext j; unfold dF noA; rw [if_neg (by omega)]
theorem dF_succ (at' : Nat → Int) (n : Nd) (m k : Nat) : upd (dF at' n m k) k (if dS n.ads k = true then at' (m + dI n k) else 0) = dF at' n m (k + 1) := by
  funext j
  unfold upd dF
  by_cases e : j = k
  · subst e
    rw [if_pos rfl]
    by_cases hd : dS n.ads j = true
    · rw [if_pos hd, if_pos ⟨by omega, hd⟩]
    · rw [if_neg hd, if_neg (fun h => hd h.2)]
  · rw [if_neg e]
    by_cases h2 : j < k ∧ dS n.ads j = true
    · rw [if_pos h2, if_pos ⟨by omega, h2.2⟩]
    · rw [if_neg h2, if_neg (fun h3 => h2 ⟨by omega, h3.2⟩)]
theorem dF_all {at' : Nat → Int} {n : Nd} {m : Nat} (h : ∀ j, j < 28 → dS n.ads j = true → at' (m + dI n j) ≠ 0) : allZ 28 (dF at' n m 28) = !dA n := by
  have e : som (tb (dF at' n m 28)) = dA n := by
    cases hd : dA n with
    | true =>
      obtain ⟨k, hk1, hk2⟩ := dA_iff.1 hd
      refine som_tb.2 ⟨k, hk1, ?_⟩
      unfold dF
      rw [if_pos ⟨hk1, hk2⟩]
      exact h k hk1 hk2
    | false =>
      refine som_false fun i hi => ?_
      rw [tb_len] at hi
      rw [tb_num _ hi]
      unfold dF
      rw [if_neg]
      rintro ⟨_, h2⟩
      rw [dA_iff.2 ⟨i, hi, h2⟩] at hd
      cases hd
  rw [← e, som_allZ, Bool.not_not]
theorem dI_up (n : Nd) {i j : Nat} (h : i ≤ j) : dI n i ≤ dI n j := by
  induction j with
  | zero => rw [show i = 0 by omega]; exact Nat.le_refl _
  | succ j ih =>
    by_cases e : i = j + 1
    · rw [e]; exact Nat.le_refl _
    · have h1 := ih (by omega)
      have h2 := dI_succ n j
      omega
/-- A layout and a node's boxes: the node's, the addresses', the record's. -/
structure PnM (w0 wr : World) (K : Nat → Prop) (g : Nat) (a : Option Addr) (n c : Nat) (ks : List Int) (u : Value) (gs : List Bl) (b3 b5 b6 : Nat) (x : Nw) (A F : Nat → Int) : Prop where
  p : PlO w0 wr K g a n c ks u gs
  nd : wr.heap[b3]? = some (.cells (nwC x) 83 (0, 0))
  ra : wr.heap[b5]? = some (.cells (arr 828 A) 149 (0, 0))
  rc : Rcb wr b6 F
  kb : K b3 ∧ K b5 ∧ K b6
  ne : b3 ≠ g ∧ b5 ≠ g ∧ b6 ≠ g ∧ b3 ≠ b6 ∧ b5 ≠ b6
section
variable {w0 wr w' : World} {K K' : Nat → Prop} {g : Nat} {a : Option Addr} {n c : Nat} {ks : List Int} {u u' : Value} {gs gs' : List Bl} {b3 b5 b6 b7 : Nat} {x : Nw} {A F D : Nat → Int}
theorem PlO.keep (h : PlO w0 wr K g a n c ks u gs) (ht : Turn (Lv g u) wr w') {b : Nat} {o : Obj} (hb : K b) (hne : b ≠ g) (hr : wr.heap[b]? = some o) : w'.heap[b]? = some o := (ht.block b (lt_of_block hr) (h.off hb hne)).trans hr
theorem PnM.next (h : PnM w0 wr K g a n c ks u gs b3 b5 b6 x A F) (hb : Below wr.heap.size wr w') : PnM w0 w' K g a n c ks u gs b3 b5 b6 x A F :=
  ⟨h.p.next hb, (hb.block _ (lt_of_block h.nd)).trans h.nd, (hb.block _ (lt_of_block h.ra)).trans h.ra, h.rc.next hb, h.kb, h.ne⟩
theorem PnM.call (h : PnM w0 wr K g a n c ks u gs b3 b5 b6 x A F) (hp : PlO w0 w' K g a n c ks u' gs') (ht : Turn (Lv g u) wr w') : PnM w0 w' K g a n c ks u' gs' b3 b5 b6 x A F :=
  ⟨hp, h.p.keep ht h.kb.1 h.ne.1 h.nd, h.p.keep ht h.kb.2.1 h.ne.2.1 h.ra, ⟨h.p.keep ht h.kb.2.2 h.ne.2.2.1 h.rc.row⟩, h.kb, h.ne⟩
theorem PnM.recS (h : PnM w0 wr K g a n c ks u gs b3 b5 b6 x A F) (k : Nat) (z : Int) : PnM w0 (wr.setCell ⟨b6, k, none⟩ (.int .i64 z)) K g a n c ks u gs b3 b5 b6 x A (upd F k z) := by
  have ht : Turn (· = b6) wr (wr.setCell ⟨b6, k, none⟩ (.int .i64 z)) := Turn.setCell (M := fun j => j = _) wr (a := ⟨_, k, none⟩) rfl _
  exact ⟨h.p.set ht h.kb.2.2 h.ne.2.2.1, (ht.block _ (lt_of_block h.nd) h.ne.2.2.2.1).trans h.nd, (ht.block _ (lt_of_block h.ra) h.ne.2.2.2.2).trans h.ra, h.rc.set k z, h.kb, h.ne⟩
theorem PnM.nw (h : PnM w0 wr K g a n c ks u gs b3 b5 b6 x A F) : wr.cell? ⟨b3, 0, none⟩ = some (.int .i64 x.ino) := cell_of_row wr b3 0 _ _ (0, 0) h.nd
/-- Double's pointers' box, too. -/
structure PnS (w0 wr : World) (K : Nat → Prop) (g : Nat) (a : Option Addr) (n c : Nat) (ks : List Int) (u : Value) (gs : List Bl) (b3 b5 b6 b7 : Nat) (x : Nw) (A F D : Nat → Int) : Prop where
  m : PnM w0 wr K g a n c ks u gs b3 b5 b6 x A F
  rd : wr.heap[b7]? = some (.cells (arr 28 D) 91 (0, 0))
  k7 : K b7
  n7 : b7 ≠ g ∧ b7 ≠ b3 ∧ b7 ≠ b5 ∧ b7 ≠ b6
theorem PnS.next (h : PnS w0 wr K g a n c ks u gs b3 b5 b6 b7 x A F D) (hb : Below wr.heap.size wr w') : PnS w0 w' K g a n c ks u gs b3 b5 b6 b7 x A F D :=
  ⟨h.m.next hb, (hb.block _ (lt_of_block h.rd)).trans h.rd, h.k7, h.n7⟩
theorem PnS.call (h : PnS w0 wr K g a n c ks u gs b3 b5 b6 b7 x A F D) (hp : PlO w0 w' K g a n c ks u' gs') (ht : Turn (Lv g u) wr w') : PnS w0 w' K g a n c ks u' gs' b3 b5 b6 b7 x A F D :=
  ⟨h.m.call hp ht, h.m.p.keep ht h.k7 h.n7.1 h.rd, h.k7, h.n7⟩
theorem PnS.recS (h : PnS w0 wr K g a n c ks u gs b3 b5 b6 b7 x A F D) (k : Nat) (z : Int) : PnS w0 (wr.setCell ⟨b6, k, none⟩ (.int .i64 z)) K g a n c ks u gs b3 b5 b6 b7 x A (upd F k z) D := by
  have ht : Turn (· = b6) wr (wr.setCell ⟨b6, k, none⟩ (.int .i64 z)) := Turn.setCell (M := fun j => j = _) wr (a := ⟨_, k, none⟩) rfl _
  exact ⟨h.m.recS k z, (ht.block _ (lt_of_block h.rd) h.n7.2.2.2).trans h.rd, h.k7, h.n7⟩
theorem PnS.dbl (h : PnS w0 wr K g a n c ks u gs b3 b5 b6 b7 x A F D) (k : Nat) (z : Int) : PnS w0 (wr.setCell ⟨b7, k, none⟩ (.int .i64 z)) K g a n c ks u gs b3 b5 b6 b7 x A F (upd D k z) := by
  have ht : Turn (· = b7) wr (wr.setCell ⟨b7, k, none⟩ (.int .i64 z)) := Turn.setCell (M := fun j => j = _) wr (a := ⟨_, k, none⟩) rfl _
  refine ⟨⟨h.m.p.set ht h.k7 h.n7.1, (ht.block _ (lt_of_block h.m.nd) (fun e => h.n7.2.1 e.symm)).trans h.m.nd, (ht.block _ (lt_of_block h.m.ra) (fun e => h.n7.2.2.1 e.symm)).trans h.m.ra, ⟨(ht.block _ h.m.rc.lt (fun e => h.n7.2.2.2 e.symm)).trans h.m.rc.row⟩, h.m.kb, h.m.ne⟩, ?_, h.k7, h.n7⟩
  rw [heap_setCell_same wr b7 k _ _ _ h.rd, arr_set]
end
end Go.Proofs.Ytegcjpocdfmpfaa
