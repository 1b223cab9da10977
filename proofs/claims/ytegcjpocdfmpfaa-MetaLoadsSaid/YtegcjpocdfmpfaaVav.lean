/-
  The program's bytes of a root, by contract.
-/
import Derived.Test.YtegcjpocdfmpfaaVas
import Derived.Test.YtegcjpocdfmpfaaVah
import Derived.Test.YtegcjpocdfmpfaaVau
import Derived.Test.YtegcjpocdfmpfaaVaq
set_option linter.unusedVariables false
set_option linter.unusedSimpArgs false
set_option maxRecDepth 100000
set_option maxHeartbeats 16000000
namespace Go.Proofs.Ytegcjpocdfmpfaa
open Go.RowKit

theorem Blk.own {w : World} {B g n : Nat} {zs : List Int} (h : Blk w g zs) (hs : AllB zs) (hB : B ≤ g) (hl : zs.length = n) (hn : n ≤ 1000) : Own w B (.slice (some ⟨g, 0, none⟩) n n) n zs := by
  refine ⟨⟨by simp [hl], .inr ⟨g, n, ints zs, rfl, hB, h.row, Nat.le_refl _, by unfold maxLen; omega, by simp [ints, hl], ?_⟩⟩, hs⟩
  simp [ints, hl]
  exact List.take_of_length_le (by simp [hl])
/-- The root's bytes ahead of its noughts, i charts told. -/
def rtI (f : Nat → Int) : Nat → List Int
  | 0 => digs 2 21074
  | i + 1 => rtI f i ++ digs 2 (f i)
theorem rtI_len (f : Nat → Int) (i : Nat) : (rtI f i).length = 2 + 2 * i := by
  induction i with
  | zero => simp [rtI, digs_len]
  | succ i ih => rw [rtI, List.length_append, ih, digs_len]; omega
/-- A block of 56 bytes, all of it new. -/
def RtP (w : World) (z : List Int) (e : Ending) (w' : World) : Prop := ∃ g, e = .returned (.slice (some ⟨g, 0, none⟩) 56 56) ∧ w.heap.size ≤ g ∧ Pin w' (some ⟨g, 0, none⟩) 56 56 z ∧ Below w.heap.size w w' ∧ ∀ o, w'.frozen? ⟨g, o, none⟩ = false
theorem prootB_any (f : Nat → Int) (hf : ∀ i, i < 2 → 0 ≤ f i ∧ f i ≤ 65535) (w : World) :
    Calls Try.prog 52 #[arv 2 f] w (RtP w (rtB (f 0) (f 1))) := by
  obtain ⟨wa, hwa⟩ : ∃ wa, wa = w.alloc (.cells (arr 2 f) 94 (0, 0)) := ⟨_, rfl⟩
  have hba : Below w.heap.size w wa := by rw [hwa]; exact (Below.refl _ _).alloc (Nat.le_refl _) _
  have hra : wa.heap[w.heap.size]? = some (.cells (arr 2 f) 94 (0, 0)) := by rw [hwa]; exact heap_alloc_new w _
  have HB := Lib.hid hba
  have HR := Lib.hid hra
  have HW := Lib.hid hwa
  have HF := Lib.hid hf
  have hz := hba.size
  have HSZ := Lib.hid (lt_of_block hra)
  clear hwa hba hra hf hz
  go_enter Try.func52, Try.ntmps52
  go_wp2_with (first | (refine wpList_bxA ar2 (by rfl) (.tmp 0) rfl f rfl ?_; rw [← HW.out]) | fail)
  refine (put_yes 2 21074 wa (by omega) (by omega) (by decide)).mono ?_
  rintro e w2 ⟨rfl, hk, hb⟩
  have HO := Lib.hid (hk.own (B := w.heap.size) (digs_small _ _) HB.out.size (digs_len _ _) (by omega))
  have HB2 := Lib.hid (HB.out.trans (hb.mono HB.out.size))
  have HR2 := Lib.hid ((hb.block _ HSZ.out).trans HR.out)
  obtain ⟨v0, hv0⟩ : ∃ v : Value, v = .slice (some ⟨wa.heap.size, 0, none⟩) 2 2 := ⟨_, rfl⟩
  rw [← hv0] at HO ⊢
  clear hk hb hv0
  go_wp2_with (first | (refine wpList_ldA ar2 (by rfl) (.tmp 1) rfl w.heap.size rfl f HR2.out ?_) | fail)
  go_loopw [3, 5, 8] (fun v3 v5 v8 wr => ∃ i : Nat, i ≤ 2 ∧ v8 = .int .i64 i ∧ Own wr w.heap.size v3 (2 + 2 * i) (rtI f i) ∧ Below w.heap.size w wr) (fun _ _ v8 _ => 2 - (RowKit.intOf v8).toNat)
  case atStart => exact ⟨0, by omega, rfl, HO.out, HB2.out⟩
  case round =>
    obtain ⟨i, hi, rfl, hO, hB⟩ := hrel
    have HO3 := Lib.hid hO
    have HB3 := Lib.hid hB
    obtain ⟨a3, c3, rfl, _, _, _⟩ := hO.form
    clear hO hB
    by_cases hlt : i < 2
    · have k1 : (i : Int) < 2 := by omega
      have hix := fun w => run_idxA 94 2 Try.underlying94 f i hlt w
      have hput := put_yes 2 (f i) wr (by omega) (by omega) (by
        have := HF.out i hlt
        simp [hasW]
        omega)
      have e2 : ((2 : Nat) : Int) = 2 := rfl
      rw [e2] at hput
      obtain ⟨z, hz⟩ : ∃ z, z = f i := ⟨_, rfl⟩
      rw [← hz] at hix hput
      have HZ := Lib.hid hz
      clear hz e2
      go_wp2_with (fail)
      refine hput.mono ?_
      rintro e w4 ⟨rfl, hk, hb⟩
      have HK := Lib.hid (hk.bysn (digs_small _ _) (digs_len _ _))
      have HB4 := Lib.hid (HB3.out.trans (hb.mono HB3.out.size))
      have HO4 := Lib.hid (HO3.out.below (Nat.le_refl _) hb)
      clear hk hb hput hix
      go_wp2_with (at_builtin; go_must (refine wpList_ap rfl (.tmp 11) (.tmp 13) rfl w.heap.size _ (2 + 2 * i) (rtI f i) rfl HO4.out (some ⟨wr.heap.size, 0, none⟩) 2 2 (digs 2 z) rfl HK.out (fun h => by cases h) (by omega) HB4.out.size w HB4.out ?_); intro v w5 o b; have HO5 := Lib.hid o; have HB5 := Lib.hid b; clear o b)
      go_roundw
      case rel => exact ⟨i + 1, by omega, by go_num, by
        have := HO5.out
        rw [show 2 + 2 * i + 2 = 2 + 2 * (i + 1) by omega] at this
        rw [rtI, ← HZ.out]
        exact this, HB5.out⟩
      case measure => simp [RowKit.intOf]; omega
    · have hi2 : i = 2 := by omega
      have k1 : ¬ (i : Int) < 2 := by omega
      have HI2 := Lib.hid hi2
      obtain ⟨_, _, e9, hnil, hbys, _⟩ := HO3.out.form
      cases e9
      have HBY := Lib.hid hbys
      have hpad := pad_yes a3 (2 + 2 * i) c3 56 (rtI f i) wr hbys (by omega) (by omega)
      have e56 : ((56 : Nat) : Int) = 56 := rfl
      rw [e56] at hpad
      have HP := Lib.hid hpad
      clear hi2 hlt hi hbys hpad e56
      go_wp2_with (fail)
      refine HP.out.mono ?_
      rintro e w4 ⟨rfl, hk, hb⟩
      have HK := Lib.hid hk
      have HB4 := Lib.hid (HB3.out.trans (hb.mono HB3.out.size))
      clear hk hb
      go_wp2_with (fail)
      go_ret
      have e : padL (rtI f i) 56 = rtB (f 0) (f 1) := by
        rw [HI2.out, padL, rtI_len, rtB]
        simp only [rtI, Z]
      rw [e] at HK
      exact ⟨wr.heap.size, rfl, HB3.out.size, HK.out.pin (by
        rw [← e]
        exact padL_small HBY.out.small 56) (rtB_len _ _) (Nat.le_refl _) (by omega), HB4.out, HK.out.free⟩

/-- A root has just one row of bytes. -/
theorem rt_iff {z : List Int} (hz : AllB z) (hl : z.length = 56) : sameB z (rtB (getV 56 z 2 2) (getV 56 z 4 2)) = (decide (getV 56 z 0 2 = 21074) && noughtB (z.drop 6)) := by
  have g : ∀ p : Nat, p + 2 ≤ 56 → getV 56 z p 2 = getN z p 2 := fun p hp => by
    have := getV_in (x := z) (p := p) (m := 2) (by omega) (by omega) (by rw [hl]; exact hp)
    rw [hl] at this
    exact this
  have g0 := g 0 (by omega)
  have g2 := g 2 (by omega)
  have g4 := g 4 (by omega)
  have b2 := getN_bd hz 2 2
  have b4 := getN_bd hz 4 2
  rw [show (256 : Int) ^ 2 = 65536 by decide] at b2 b4
  have d0 := digs_get hz 0 2 (by omega)
  have d2 := digs_get hz 2 2 (by omega)
  have d4 := digs_get hz 4 2 (by omega)
  rw [show ((2 : Nat) : Int) = 2 from rfl] at g2
  rw [show ((4 : Nat) : Int) = 4 from rfl] at g4
  rw [show ((0 : Nat) : Int) = 0 from rfl] at g0
  rw [Bool.eq_iff_iff, Bool.and_eq_true, decide_eq_true_eq]
  constructor
  · intro h
    have h : z = rtB (getV 56 z 2 2) (getV 56 z 4 2) := by simpa [sameB] using h
    obtain ⟨e0, _, _, e3⟩ := rtB_get (x := getV 56 z 2 2) (y := getV 56 z 4 2) (by rw [g2]; omega) (by rw [g4]; omega)
    rw [← h, hl] at e0
    rw [← h] at e3
    exact ⟨e0, e3⟩
  · rintro ⟨h0, h1⟩
    refine sameB_true ?_
    have e6 : z.drop 6 = Z 50 := by
      have := nought_rep h1
      rw [List.length_drop, hl] at this
      exact this
    rw [g0] at h0
    rw [rtB, g2, g4, ← h0, d0, d2, d4, ← e6]
    have e : z = z.take 2 ++ ((z.drop 2).take 2 ++ ((z.drop 4).take 2 ++ z.drop 6)) := by
      conv => lhs; rw [← List.take_append_drop 2 z]
      congr 1
      conv => lhs; rw [← List.take_append_drop 2 (z.drop 2)]
      congr 1
      rw [List.drop_drop]
      conv => lhs; rw [← List.take_append_drop 2 (z.drop (2 + 2))]
      rw [List.drop_drop]
    rw [List.drop_zero, List.append_assoc, List.append_assoc]
    exact e
/-- The numbers that a root tells. -/
def gtF (z : List Int) (i : Nat) : Nat → Int := fun j => if j < i then getV 56 z ((2 * (j + 1) : Nat) : Int) 2 else 0
theorem gtF_zero (z : List Int) : gtF z 0 = noA := by funext j; unfold gtF noA; rw [if_neg (by omega)]
theorem gtF_succ (z : List Int) (i : Nat) : upd (gtF z i) i (getV 56 z ((2 * (i + 1) : Nat) : Int) 2) = gtF z (i + 1) := by
  funext j
  unfold upd gtF
  by_cases e : j = i
  · subst e; rw [if_pos rfl, if_pos (by omega)]
  · rw [if_neg e]
    by_cases h2 : j < i
    · rw [if_pos h2, if_pos (by omega)]
    · rw [if_neg h2, if_neg (by omega)]
def rtP (root : Int) : Rp (Int × Int) := .rd root fun b => if getV b.length b 0 2 = 21074 ∧ noughtB (b.drop 6) = true then .ret (getV b.length b 2 2, getV b.length b 4 2) else .bad 15
def rtG (x : Int × Int) : Nat → Int := fun i => if i = 0 then x.1 else x.2
abbrev valR (x : Int × Int) (u : Value) (w' : World) : Prop := u = arv 2 (rtG x)
theorem proot_any {K : Nat → Prop} (S : Sv) (g : Nat) (v : Value) (l : List Int) (hh : Bool) (q : Int) (w : World) (H : LdK w K S g v l hh) (hm : l.length ≤ 1000000) :
    Calls Try.prog 103 #[.pointer (some ⟨g, 0, none⟩), .int .i64 q] w (PrP w K S g v (run S.M S.blk (rtP q) l) (fun _ => hh) valR) := by
  obtain ⟨wa, hwa⟩ : ∃ wa, wa = w.alloc (.cells (arr 2 noA) 94 (0, 0)) := ⟨_, rfl⟩
  have hba : Below w.heap.size w wa := by rw [hwa]; exact (Below.refl _ _).alloc (Nat.le_refl _) _
  have hra : wa.heap[w.heap.size]? = some (.cells (arr 2 noA) 94 (0, 0)) := by rw [hwa]; exact heap_alloc_new w _
  have HH := Lib.hid (show LdK wa (fun j => K j ∨ j = w.heap.size) S g v l hh from H.box hba (b := w.heap.size) (Nat.le_refl _) (lt_of_block hra) (fun j e => e))
  have HB := Lib.hid hba
  have HR := Lib.hid hra
  have HW := Lib.hid hwa
  have HL := Lib.hid hm
  have HG0 := Lib.hid (show S.w0.heap.size ≤ w.heap.size from H.bel.size)
  have hcall := pblock_any S g v l hh q wa HH.out hm
  obtain ⟨R, hR⟩ : ∃ R, R = run S.M S.blk (.rd q .ret) l := ⟨_, rfl⟩
  rw [← hR] at hcall
  have HRE := Lib.hid hR
  clear hwa hba hra H hm hR
  cases R with
  | error er =>
    have HE := Lib.hid (show run S.M S.blk (rtP q) l = .error er by rw [rtP, run_rd2, ← HRE.out])
    go_enter Try.func103, Try.ntmps103
    go_wp2_with (first | (refine wpList_alA ar2 (by rfl) rfl ?_; rw [← HW.out]) | fail)
    refine hcall.mono ?_
    rintro e w2 ⟨ht, rfl⟩
    exact ⟨rfl, PrP.err HE.out ((Turn.of_below (M := Tv g v) HB.out).trans ht)⟩
  | ok x =>
    obtain ⟨z, l'⟩ := x
    have HE := Lib.hid (show run S.M S.blk (rtP q) l = run S.M S.blk (if getV z.length z 0 2 = 21074 ∧ noughtB (z.drop 6) = true then .ret (getV z.length z 2 2, getV z.length z 4 2) else .bad 15) l' by rw [rtP, run_rd2, ← HRE.out])
    go_enter Try.func103, Try.ntmps103
    go_wp2_with (first | (refine wpList_alA ar2 (by rfl) rfl ?_; rw [← HW.out]) | fail)
    refine hcall.mono ?_
    rintro e w2 ⟨ht, u, v', rfl, ⟨a, c, rfl, hp, hn⟩, hk, ho⟩
    obtain ⟨wl, hwl⟩ : ∃ wl, wl = w2.alloc (.cells (arr 2 noA) 94 (0, 0)) := ⟨_, rfl⟩
    obtain ⟨b6, hb6⟩ : ∃ b, b = w2.heap.size := ⟨_, rfl⟩
    have hbl : Below w2.heap.size w2 wl := by rw [hwl]; exact (Below.refl _ _).alloc (Nat.le_refl _) _
    have hrl : wl.heap[b6]? = some (.cells (arr 2 noA) 94 (0, 0)) := by rw [hwl, hb6]; exact heap_alloc_new w2 _
    have HKl := Lib.hid (show LdK wl (fun j => (K j ∨ j = w.heap.size) ∨ j = b6) S g v' l' hh from hk.box hbl (b := b6) (by omega) (lt_of_block hrl) (fun j e => e))
    have HR4 := Lib.hid ((hbl.block _ (hk.kk w.heap.size (.inr rfl)).1).trans (HH.out.keep ht (.inr rfl) HR.out))
    have HTl := Lib.hid (((Turn.of_below (M := Tv g v) HB.out).trans ht).trans (Turn.of_below hbl))
    have HN6 := Lib.hid (show w.heap.size < b6 by rw [hb6]; exact (hk.kk w.heap.size (.inr rfl)).1)
    have HO2 := Lib.hid (show ∀ j, v'.ownBlock = some j → v.ownBlock = some j ∨ w.heap.size ≤ j from fun j e => by
      rcases ho j e with e1 | e1
      · exact .inl e1
      · exact .inr (Nat.le_trans HB.out.size e1))
    have HP := Lib.hid (hp.next hbl)
    have HPB := Lib.hid (show ∀ y, a = some y → y.block ≠ b6 from fun y e => by have := (hn y e).2; omega)
    have HRL := Lib.hid hrl
    have HWL := Lib.hid hwl
    have HB6 := Lib.hid hb6
    clear hcall hk ht ho hp hn hwl hb6 hbl hrl
    go_wp2_with (first | (refine wpList_alA ar2 (by rfl) rfl ?_; rw [← HWL.out, ← HB6.out]) | fail)
    go_loopw [7, 11, 14] (fun v7 v11 v14 wr => ∃ i : Nat, i ≤ 2 ∧ v11 = .int .i64 i ∧ wr.heap[b6]? = some (.cells (arr 2 (gtF z i)) 94 (0, 0)) ∧ Turn (· = b6) wl wr) (fun _ v11 _ _ => 2 - (RowKit.intOf v11).toNat)
    case atStart => exact ⟨0, by omega, rfl, by rw [gtF_zero]; exact HRL.out, Turn.refl _ _⟩
    case round =>
      obtain ⟨i, hi, rfl, hr, ht⟩ := hrel
      have HRr := Lib.hid hr
      have HTr := Lib.hid ht
      have HPr := Lib.hid (HP.out.turn ht (fun y e => HPB.out y e))
      clear hr ht
      by_cases hlt : i < 2
      · have k1 : (i : Int) < 2 := by omega
        have HLT := Lib.hid hlt
        obtain ⟨p, hp⟩ : ∃ p : Nat, p = 2 * (i + 1) := ⟨_, rfl⟩
        have v1 : IntKind.i64.wrap ((i : Int) + 1) = (i : Int) + 1 := IntWalk.i64_in _ (by omega)
        have v2 : IntKind.i64.wrap (((i : Int) + 1) * 2) = (p : Int) := by rw [show ((i : Int) + 1) * 2 = (p : Int) by omega]; exact IntWalk.i64_in _ (by omega)
        have hget := get_fun a 56 c (p : Int) 2 z wr HPr.out.bys (by omega)
        obtain ⟨y, hy⟩ : ∃ y, y = getV 56 z (p : Int) 2 := ⟨_, rfl⟩
        rw [← hy] at hget
        have HY := Lib.hid hy
        have HPP := Lib.hid hp
        have r0 := cell_of_row wr b6 i _ _ (0, 0) HRr.out
        rw [arr_at _ hlt] at r0
        have r1 := frozen_of_row wr b6 i _ _ HRr.out
        have r2 := lt_of_block HRr.out
        clear hlt hp hy
        go_wp2_with (fail)
        refine hget.mono ?_
        rintro e w3 ⟨rfl, rfl⟩
        clear hget
        go_wp2_with (fail)
        go_roundw
        case rel =>
          refine ⟨i + 1, by have := HLT.out; omega, by go_num, ?_, HTr.out.trans (Turn.setCell (M := fun j => j = b6) wr (a := ⟨b6, i, none⟩) rfl _)⟩
          rw [heap_setCell_same wr b6 i _ _ _ HRr.out, arr_set, HY.out, HPP.out, gtF_succ]
        case measure => have := HLT.out; simp [RowKit.intOf]; omega
      · have hi2 : i = 2 := by omega
        have k1 : ¬ (i : Int) < 2 := by omega
        rw [hi2] at HRr
        clear hi2 hlt hi
        have hz56 := HP.out.len
        have HZ56 := Lib.hid hz56
        have hzs := HP.out.bys.small
        obtain ⟨f, hf⟩ : ∃ f, f = gtF z 2 := ⟨_, rfl⟩
        rw [← hf] at HRr
        have hf0 : f 0 = getV 56 z 2 2 := by rw [hf]; rfl
        have hf1 : f 1 = getV 56 z 4 2 := by rw [hf]; rfl
        have hb0 : ∀ p : Nat, p + 2 ≤ 56 → 0 ≤ getV 56 z (p : Int) 2 ∧ getV 56 z (p : Int) 2 ≤ 65535 := fun p hp => by
          have h1 := getV_in (x := z) (p := p) (m := 2) (by omega) (by omega) (by rw [hz56]; exact hp)
          rw [hz56] at h1
          have h2 := getN_bd hzs p 2
          rw [show (256 : Int) ^ 2 = 65536 by decide] at h2
          have h3 : getV 56 z (p : Int) 2 = getN z p 2 := h1
          omega
        have hrb := prootB_any f (fun i hi => by
          rcases (by omega : i = 0 ∨ i = 1) with rfl | rfl
          · rw [hf0]; exact hb0 2 (by omega)
          · rw [hf1]; exact hb0 4 (by omega)) wr
        have hsame := rt_iff hzs hz56
        rw [← hf0, ← hf1] at hsame
        have HKr := Lib.hid (HKl.out.set HTr.out (.inr rfl) (by have := HN6.out; have := HG0.out; omega))
        have HR4r := Lib.hid ((HTr.out.block w.heap.size (lt_of_block HR4.out) (by show ¬ w.heap.size = b6; have := HN6.out; omega)).trans HR4.out)
        have HTT := Lib.hid (HTl.out.trans2 HTr.out (fun j e => .inr (by rw [e]; have := HN6.out; omega)))
        have HF := Lib.hid (And.intro hf0 hf1)
        have HS := Lib.hid hsame
        have HRB := Lib.hid hrb
        clear hf hf0 hf1 hb0 hrb hsame hz56 hzs HKl HR4 HTl HTr
        go_wp2_with (first | (refine wpList_ldA ar2 (by rfl) (.tmp 6) rfl b6 rfl f HRr.out ?_) | fail)
        refine HRB.out.mono ?_
        rintro e w3 ⟨gb, rfl, _, hpb, hb, _⟩
        have hpr := HPr.out.next hb
        have HK3 := Lib.hid (HKr.out.next hb)
        have HR63 := Lib.hid ((hb.block _ (lt_of_block HRr.out)).trans HRr.out)
        have HR43 := Lib.hid ((hb.block _ (lt_of_block HR4r.out)).trans HR4r.out)
        have HT3 := Lib.hid (HTT.out.trans (Turn.of_below hb))
        have heq := equal_any a (some ⟨gb, 0, none⟩) 56 c 56 56 z (rtB (f 0) (f 1)) w3 hpr.bys hpb.bys
        rw [HS.out] at heq
        have HEQ := Lib.hid heq
        clear hpb hb hpr heq
        by_cases hok : getV 56 z 0 2 = 21074 ∧ noughtB (z.drop 6) = true
        · have HE2 := Lib.hid (show run S.M S.blk (rtP q) l = .ok ((f 0, f 1), l') by
            rw [HE.out, HZ56.out, if_pos hok, HF.out.1, HF.out.2]; rfl)
          have HEQ2 := Lib.hid (show Calls _ _ _ _ _ from HEQ.out)
          rw [decide_eq_true hok.1, hok.2, show (true && true) = true from rfl] at HEQ2
          clear hok
          go_wp2_with (fail)
          refine HEQ2.out.mono ?_
          rintro e w4 ⟨rfl, rfl⟩
          go_wp2_with (fail)
          refine (refuse_no w3).mono ?_
          rintro e w4 ⟨rfl, rfl⟩
          go_wp2_with (first
            | (refine wpList_ldA ar2 (by rfl) (.tmp 6) rfl b6 rfl f HR63.out ?_)
            | (refine wpList_stA ar2 (by rfl) (.tmp 4) (.tmp 31) rfl w.heap.size rfl f noA rfl HR43.out ?_; intro w8 h8 ho8 hb8)
            | fail)
          have ht8 : Turn (· = w.heap.size) _ w8 := ⟨(hb8 _ _ (Nat.le_refl _) (Below.refl _ _)).os, (hb8 _ _ (Nat.le_refl _) (Below.refl _ _)).tape, (hb8 _ _ (Nat.le_refl _) (Below.refl _ _)).output, (hb8 _ _ (Nat.le_refl _) (Below.refl _ _)).size, fun k _ hk => ho8 k hk⟩
          refine bodyPost_ret (v := arv 2 f) ?_ rfl ?_
          · exact res_c1 rfl _ _ ⟨w.heap.size, 0, none⟩ _ rfl (ar2.load h8)
          · refine PrP.ok HE2.out (HT3.out.trans2 ht8 (fun j e => .inr (by rw [e]; exact Nat.le_refl _))) ?_ ((HK3.out.set ht8 (.inl (.inr rfl)) HG0.out).sub (fun j e => .inl (.inl e))) HO2.out
            show arv 2 f = arv 2 (rtG (f 0, f 1))
            unfold arv
            rw [arr_congr (n := 2) (f := f) (g := rtG (f 0, f 1)) (fun i hi => by
              rcases (by omega : i = 0 ∨ i = 1) with rfl | rfl <;> rfl)]
        · have HE2 := Lib.hid (show run S.M S.blk (rtP q) l = .error 15 by
            rw [HE.out, HZ56.out, if_neg hok]; rfl)
          have hno : (decide (getV 56 z 0 2 = 21074) && noughtB (z.drop 6)) = false := by
            cases h1 : (decide (getV 56 z 0 2 = 21074) && noughtB (z.drop 6)) with
            | false => rfl
            | true =>
              rw [Bool.and_eq_true, decide_eq_true_eq] at h1
              exact absurd h1 hok
          have HEQ2 := Lib.hid (show Calls _ _ _ _ _ from HEQ.out)
          rw [hno] at HEQ2
          clear hok hno
          go_wp2_with (fail)
          refine HEQ2.out.mono ?_
          rintro e w4 ⟨rfl, rfl⟩
          go_wp2_with (fail)
          refine (refuse_yes w3).mono ?_
          rintro e w4 ⟨rfl, rfl⟩
          exact ⟨rfl, PrP.err HE2.out HT3.out⟩

section
variable {α β : Type} {N : Int} {blk : Int → Option (List Int)}
theorem run_ptP_len (dbl : List Int) (nb : Int) (k : Nat) : ∀ {i : Nat} {acc : List Int} {h wr : Bool} {l l' : List Int} {x : List Int × Bool × Bool}, run N blk (ptP dbl nb k i acc h wr) l = .ok (x, l') → l'.length ≤ l.length + k := by
  induction k with
  | zero =>
    intro i acc h wr l l' x e
    rw [ptP, run] at e
    simp only [Except.ok.injEq, Prod.mk.injEq] at e
    rw [← e.2]
    omega
  | succ k ih =>
    intro i acc h wr l l' x e
    rw [ptP, run_bind] at e
    cases hp : run N blk (rdP (num dbl i)) l with
    | ok y =>
      obtain ⟨p, l2⟩ := y
      rw [hp] at e
      dsimp only at e
      have h1 := ih e
      have h2 := (run_rdP_len hp).1
      omega
    | error er => rw [hp] at e; cases e
theorem run_ndP_len {ino p : Int} {l l' : List Int} {x : Nd × Bool} (e : run N blk (ndP N ino p) l = .ok (x, l')) : l'.length ≤ l.length + 31 := by
  rw [ndP_is, run_rd2] at e
  cases h0 : run N blk (.rd p .ret) l with
  | error er => rw [h0] at e; cases e
  | ok y =>
    obtain ⟨b, l1⟩ := y
    rw [h0] at e
    dsimp only at e
    have e1 : l1.length = l.length + 1 := by rw [run_rd_len h0]; simp
    rw [ndK1] at e
    cases hk : okG b with
    | false => rw [hk] at e; cases e
    | true =>
      rw [hk, if_pos rfl, run_bind] at e
      cases h1 : run N blk (rdP (tld b 19)) l1 with
      | error er => rw [h1] at e; cases e
      | ok y =>
        obtain ⟨s, l2⟩ := y
        rw [h1] at e
        dsimp only at e
        rw [ndK2, run_bind] at e
        cases h2 : run N blk (rdP (tld b 20)) l2 with
        | error er => rw [h2] at e; cases e
        | ok y =>
          obtain ⟨d, l3⟩ := y
          rw [h2] at e
          dsimp only at e
          rw [ndK3, run_bind] at e
          cases h3 : run N blk (ptP d.1 (blkN (tld b 2)) 28 0 [] (s.2 || d.2) false) l3 with
          | error er => rw [h3] at e; cases e
          | ok y =>
            obtain ⟨q, l4⟩ := y
            rw [h3] at e
            dsimp only at e
            rw [ndK4] at e
            have g1 := (run_rdP_len h1).1
            have g2 := (run_rdP_len h2).1
            have g3 := run_ptP_len _ _ _ h3
            split at e
            · cases e
            · rw [run] at e
              simp only [Except.ok.injEq, Prod.mk.injEq] at e
              rw [← e.2]
              omega
end
/-- Behind all nodes. -/
def lsK (N : Int) (q : List Nd × Bool) : Rp (List Nd) := if q.2 || !lrO N q.1 then .bad 15 else .ret q.1
def lsK3 (N : Int) (c d : List Int) : Rp (List Nd) := (nsP N (c ++ d) 56 0 [] false).bind (lsK N)
def lsK2 (N y : Int) (c : List Int) : Rp (List Nd) := (rdQ y).bind (lsK3 N c)
def lsK1 (N : Int) (x : Int × Int) : Rp (List Nd) := (rdQ x.1).bind (lsK2 N x.2)
theorem loadK_is (N root : Int) (G : List Int → Rp (List Nd × Bool)) : (Rp.rd root fun b => if getV b.length b 0 2 = 21074 ∧ noughtB (b.drop 6) = true then .rd (getV b.length b 2 2) fun c => .rd (getV b.length b 4 2) fun d => (G (gpL c 28 ++ gpL d 28)).bind (lsK N) else .bad 15) = (rtP root).bind fun x => (rdQ x.1).bind fun c => (rdQ x.2).bind fun d => (G (c ++ d)).bind (lsK N) := by
  rw [rtP]
  show _ = Rp.rd root fun b => Rp.bind _ _
  congr 1
  funext b
  by_cases h : getV b.length b 0 2 = 21074 ∧ noughtB (b.drop 6) = true
  · rw [if_pos h, if_pos h]; rfl
  · rw [if_neg h, if_neg h]; rfl
theorem loadP_is (N root : Int) : loadP N root = (rtP root).bind (lsK1 N) := loadK_is N root (fun ch => nsP N ch 56 0 [] false)
theorem nsP_succ (N : Int) (ch : List Int) {i : Nat} (hi : i < 56) (L : List Nd) (h : Bool) : nsP N ch (56 - i) i L h = if num ch i = 0 then nsP N ch (56 - (i + 1)) (i + 1) L h else (ndP N ((i : Int) + 1) (num ch i)).bind fun q => nsP N ch (56 - (i + 1)) (i + 1) (L ++ [q.1]) (h || q.2) := by
  rw [show 56 - i = (56 - (i + 1)) + 1 by omega, nsP]
/-- What is not to be touched while nodes are read. -/
def K3 (Kp : Nat → Prop) (vr vl : Value) (n : Nat) (f : Nat → Nw) (j : Nat) : Prop := Kp j ∨ vr.ownBlock = some j ∨ vl.ownBlock = some j ∨ ∃ i, i < n ∧ ∃ y, (f i).a = some y ∧ y.block = j
/-- A list that is answered. -/
def valL (L : List Nd) (u : Value) (w' : World) : Prop := ∃ a n c f, u = .slice a n c ∧ NwsAt w' a n f ∧ (∀ i, i < n → NwOk w' (f i)) ∧ lnL f n = L
end Go.Proofs.Ytegcjpocdfmpfaa
