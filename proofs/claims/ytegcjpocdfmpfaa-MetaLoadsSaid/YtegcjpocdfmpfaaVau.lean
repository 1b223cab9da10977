/-
  The program's loader: a node, by contract: the walk.
-/
import Derived.Test.YtegcjpocdfmpfaaVat
set_option linter.unusedVariables false
set_option linter.unusedSimpArgs false
set_option maxRecDepth 100000
set_option maxHeartbeats 16000000
namespace Go.Proofs.Ytegcjpocdfmpfaa
open Go.RowKit

theorem TvT.fin {w w' : World} {g : Nat} {v : Value} (h : Turn (fun j => Tv g v j ∨ w.heap.size ≤ j) w w') : Turn (Tv g v) w w' :=
  ⟨h.os, h.tape, h.output, h.size, fun k hk hn => h.block k hk (fun e => by
    rcases e with e | e
    · exact hn e
    · omega)⟩
theorem blkN_ge (s : Int) : 0 ≤ blkN s := by unfold blkN; split <;> omega
theorem Turn.stepT {w wr w' : World} {g : Nat} {v vx : Value} (h : Turn (fun j => Tv g v j ∨ w.heap.size ≤ j) w wr) (ht : Turn (Tv g vx) wr w') (ho : ∀ j, vx.ownBlock = some j → v.ownBlock = some j ∨ w.heap.size ≤ j) : Turn (fun j => Tv g v j ∨ w.heap.size ≤ j) w w' :=
  h.trans2 ht (fun j e => by
    rcases e with e | e
    · exact .inl (.inl (.inl e))
    · rcases ho j e with e1 | e1
      · exact .inl (.inl (.inr e1))
      · exact .inr e1)
theorem ho_step {M : Nat → Prop} {w wr : World} {v vx vy : Value} (h : Turn M w wr) (ho : ∀ j, vx.ownBlock = some j → v.ownBlock = some j ∨ w.heap.size ≤ j) (ho2 : ∀ j, vy.ownBlock = some j → vx.ownBlock = some j ∨ wr.heap.size ≤ j) : ∀ j, vy.ownBlock = some j → v.ownBlock = some j ∨ w.heap.size ≤ j := fun j e => by
  rcases ho2 j e with e1 | e1
  · exact ho j e1
  · exact .inr (Nat.le_trans h.size e1)
theorem pnodeL_any {Kp : Nat → Prop} (S : Sv) (g : Nat) (v : Value) (l : List Int) (hh : Bool) (ino q : Int) (w : World) (H : LdK w Kp S g v l hh) (hm : l.length ≤ 900000) :
    Calls Try.prog 105 #[.pointer (some ⟨g, 0, none⟩), .int .i64 ino, .int .i64 q] w (PrN w Kp S g v (run S.M S.blk (ndP S.M ino q) l) (fun x => hh || x.2)) := by
  have hmf := hmf
  obtain ⟨w1, hw1⟩ : ∃ w1, w1 = w.alloc (.cells #[.pointer (some ⟨g, 0, none⟩)] 108 (0, 0)) := ⟨_, rfl⟩
  obtain ⟨w2, hw2⟩ : ∃ w2, w2 = w1.alloc (.cells #[.int .i64 0, .int .i64 0, .int .i64 0, .int .i64 0, .slice none 0 0] 83 (0, 0)) := ⟨_, rfl⟩
  have hb1 : Below w.heap.size w w1 := by rw [hw1]; exact (Below.refl _ _).alloc (Nat.le_refl _) _
  have hb2 : Below w1.heap.size w1 w2 := by rw [hw2]; exact (Below.refl _ _).alloc (Nat.le_refl _) _
  have hz1 : w1.heap.size = w.heap.size + 1 := by rw [hw1]; simp
  obtain ⟨b3, hb3⟩ : ∃ b, b = w.heap.size := ⟨_, rfl⟩
  obtain ⟨b6, hb6⟩ : ∃ b, b = w.heap.size + 1 := ⟨_, rfl⟩
  have hr3 : w1.heap[b3]? = some (ptO' g) := by rw [hw1, hb3]; exact heap_alloc_new w _
  have hr6 : w2.heap[b6]? = some (ndO' noN) := by rw [hw2, hb6, ← hz1]; exact heap_alloc_new w1 _
  have HK2 := Lib.hid (show LdK w2 (fun j => (Kp j ∨ j = b3) ∨ j = b6) S g v l hh from
    (H.box (K' := fun j => Kp j ∨ j = b3) hb1 (b := b3) (by omega) (lt_of_block hr3) (fun j e => e)).box hb2 (b := b6) (by omega) (lt_of_block hr6) (fun j e => e))
  have HR2 := Lib.hid (show RwL w2 (fun j => (Kp j ∨ j = b3) ∨ j = b6) [(b6, ndO' noN), (b3, ptO' g)] from
    (show RwL w1 (fun j => Kp j ∨ j = b3) [(b3, ptO' g)] from fun x hx => by
      rw [List.mem_singleton.1 hx]; exact ⟨.inr rfl, hr3⟩).box hb2 hr6 (fun j e => .inl e) (.inr rfl))
  have HT2 := Lib.hid (show Turn (fun j => Tv g v j ∨ w.heap.size ≤ j) w w2 from Turn.of_below (hb1.trans (hb2.mono hb1.size)))
  have HW2 := Lib.hid hw2
  have HW1 := Lib.hid hw1
  have HB3 := Lib.hid hb3
  have HB6 := Lib.hid hb6
  have HNE := Lib.hid (show w.heap.size ≤ b3 ∧ b3 < b6 ∧ b6 < w2.heap.size by have := lt_of_block hr6; omega)
  have HL := Lib.hid hm
  have HG0 := Lib.hid (show S.w0.heap.size ≤ w.heap.size from H.bel.size)
  have hcall := pblock_any S g v l hh q w2 HK2.out (by omega)
  obtain ⟨R, hR⟩ : ∃ R, R = run S.M S.blk (.rd q .ret) l := ⟨_, rfl⟩
  rw [← hR] at hcall
  have HRE := Lib.hid hR
  have x3 : w2.cell? ⟨b3, 0, none⟩ = some (.pointer (some ⟨g, 0, none⟩)) := cell_of_row w2 b3 0 _ _ (0, 0) (HR2.out.tl).hd
  clear hw1 hw2 hb1 hb2 hz1 hb3 hb6 hr3 hr6 H hm hR
  cases R with
  | error er =>
    have HE := Lib.hid (show run S.M S.blk (ndP S.M ino q) l = .error er by rw [ndP_is, run_rd2, ← HRE.out])
    go_enter Try.func105, Try.ntmps105
    go_wp2_with (fail)
    rw [← HW1.out, ← HW2.out]
    refine hcall.mono ?_
    rintro e w3 ⟨ht, rfl⟩
    exact ⟨rfl, PrN.err HE.out (TvT.fin (HT2.out.trans2 ht (fun j e => .inl (.inl e))))⟩
  | ok xx =>
    obtain ⟨z, l1⟩ := xx
    have HE := Lib.hid (show run S.M S.blk (ndP S.M ino q) l = run S.M S.blk (ndK1 S.M ino z) l1 by rw [ndP_is, run_rd2, ← HRE.out])
    have HL1 := Lib.hid (show l1.length ≤ l.length + 1 by rw [run_rd_len HRE.out.symm]; simp)
    go_enter Try.func105, Try.ntmps105
    go_wp2_with (fail)
    rw [← HW1.out, ← HW2.out, ← HB6.out, ← HB3.out]
    refine hcall.mono ?_
    rintro e w3 ⟨ht, u, v1, rfl, ⟨a, c, rfl, hp, _⟩, hk, ho⟩
    have HK3 := Lib.hid hk
    have HR3 := Lib.hid (HR2.out.call HK2.out ht)
    have HT3 := Lib.hid (show Turn (fun j => Tv g v j ∨ w.heap.size ≤ j) w w3 from HT2.out.trans2 ht (fun j e => .inl (.inl e)))
    have HO3 := Lib.hid (show ∀ j, v1.ownBlock = some j → v.ownBlock = some j ∨ w.heap.size ≤ j from fun j e => by
      rcases ho j e with e1 | e1
      · exact .inl e1
      · exact .inr (Nat.le_trans HT2.out.size e1))
    have HP3 := Lib.hid hp
    clear hcall hk ht ho hp HK2 HR2 HT2 HW1 HW2 HRE x3
    have hget := getR_any a 56 c z w3 HP3.out.bys (by omega)
    obtain ⟨ok, hok⟩ : ∃ o, o = okG z := ⟨_, rfl⟩
    have HOK := Lib.hid hok
    clear hok
    cases ok with
    | false =>
      have HE2 := Lib.hid (show run S.M S.blk (ndP S.M ino q) l = .error 15 by rw [HE.out, ndK1, ← HOK.out]; rfl)
      go_wp2_with (fail)
      refine hget.mono ?_
      rintro e w4 ⟨rfl, hb⟩
      rw [← HOK.out]
      have HT4 := Lib.hid (HT3.out.trans (Turn.of_below hb))
      clear hb hget
      go_wp2_with (first | (refine wpList_stR (by rfl) (.tmp 7) (.tmp 20) rfl w4.heap.size rfl (gR z) rfl noR (Rcb.mk' w4 noR) ?_; intro w5 h5 o5 b5; have B5 := Lib.hid b5; clear h5 o5 b5) | fail)
      refine (refuse_yes w5).mono ?_
      rintro e w6 ⟨rfl, rfl⟩
      exact ⟨rfl, PrN.err HE2.out (TvT.fin (HT4.out.trans (Turn.of_below (B5.out _ _ (Nat.le_refl _) ((Below.refl _ _).alloc (Nat.le_refl _) _)))))⟩
    | true =>
      go_wp2_with (fail)
      refine hget.mono ?_
      rintro e w4 ⟨rfl, hb⟩
      rw [← HOK.out, gR_yes HOK.out.symm]
      have HK4 := Lib.hid (HK3.out.next hb)
      have HR4 := Lib.hid (HR3.out.next hb)
      have HT4 := Lib.hid (HT3.out.trans (Turn.of_below hb))
      have HZ4 := Lib.hid (show b6 < w4.heap.size from lt_of_block (HR4.out.hd))
      clear hb hget HK3 HR3 HT3 HP3
      go_wp2_with (first | (refine wpList_stR (by rfl) (.tmp 7) (.tmp 20) rfl w4.heap.size rfl (tld z) rfl noR (Rcb.mk' w4 noR) ?_; intro w5 h5 o5 b5; have H5 := Lib.hid h5; have B5 := Lib.hid b5; clear h5 o5 b5) | fail)
      refine (refuse_no w5).mono ?_
      rintro e w6 ⟨rfl, rfl⟩
      obtain ⟨b7, hb7⟩ : ∃ b, b = w4.heap.size := ⟨_, rfl⟩
      have hb45 : Below w4.heap.size w4 w5 := B5.out _ _ (Nat.le_refl _) ((Below.refl _ _).alloc (Nat.le_refl _) _)
      have hr7 : w5.heap[b7]? = some (rcO' (tld z)) := by rw [hb7]; exact H5.out.row
      have HK5 := Lib.hid (show LdK w5 (fun j => ((Kp j ∨ j = b3) ∨ j = b6) ∨ j = b7) S g v1 l1 hh from HK4.out.box hb45 (b := b7) (by omega) (lt_of_block hr7) (fun j e => e))
      have HR5 := Lib.hid (show RwL w5 (fun j => ((Kp j ∨ j = b3) ∨ j = b6) ∨ j = b7) [(b7, rcO' (tld z)), (b6, ndO' noN), (b3, ptO' g)] from HR4.out.box hb45 hr7 (fun j e => .inl e) (.inr rfl))
      have HT5 := Lib.hid (show Turn (fun j => Tv g v j ∨ w.heap.size ≤ j) w w5 from HT4.out.trans (Turn.of_below hb45))
      obtain ⟨w8, hw8⟩ : ∃ w8, w8 = w5.alloc (.cells (arr 828 noA) 149 (0, 0)) := ⟨_, rfl⟩
      obtain ⟨b9, hb9⟩ : ∃ b, b = w5.heap.size := ⟨_, rfl⟩
      have hb58 : Below w5.heap.size w5 w8 := by rw [hw8]; exact (Below.refl _ _).alloc (Nat.le_refl _) _
      have hr9 : w8.heap[b9]? = some (adO' noA) := by rw [hw8, hb9]; exact heap_alloc_new w5 _
      have HK8 := Lib.hid (show LdK w8 (fun j => (((Kp j ∨ j = b3) ∨ j = b6) ∨ j = b7) ∨ j = b9) S g v1 l1 hh from HK5.out.box hb58 (b := b9) (by omega) (lt_of_block hr9) (fun j e => e))
      have HR8 := Lib.hid (show RwL w8 (fun j => (((Kp j ∨ j = b3) ∨ j = b6) ∨ j = b7) ∨ j = b9) [(b9, adO' noA), (b7, rcO' (tld z)), (b6, ndO' noN), (b3, ptO' g)] from HR5.out.box hb58 hr9 (fun j e => .inl e) (.inr rfl))
      have HT8 := Lib.hid (show Turn (fun j => Tv g v j ∨ w.heap.size ≤ j) w w8 from HT5.out.trans (Turn.of_below hb58))
      have HN9 := Lib.hid (show b6 < b7 ∧ b7 < b9 by have h1 := HZ4.out; have h2 := lt_of_block hr7; omega)
      have HW8 := Lib.hid hw8
      have HB7 := Lib.hid hb7
      have HB9 := Lib.hid hb9
      rw [← hb7]
      clear hb45 hr7 hw8 hb58 hr9 HK4 HR4 HT4 HK5 HR5 HT5 H5 B5 hb7 hb9
      go_upto_region 4 with (first | (refine wpList_alA arA (by rfl) rfl ?_; rw [← HW8.out, ← HB9.out]) | fail)
      obtain ⟨Ld, hLd, hLn, hLl⟩ : ∃ L : List Int, (∀ w' : World, w'.heap[b7]? = some (rcO' (tld z)) → Ins w' (some ⟨b7, 3, none⟩) 16 L) ∧ L = dir (tld z) ∧ L.length = 16 := by
        refine ⟨dir (tld z), fun w' hr => ?_, rfl, dir_len _⟩
        have := ins_arr (n := 21) (g := tld z) (by rw [← rcs_arr]; exact hr) (o := 3) (m := 16) (by omega)
        exact this
      have HLD := Lib.hid hLd
      have HLN := Lib.hid (And.intro hLn hLl)
      have hsl := run_slA b9
      clear hLd hLn hLl
      go_region_law (refine step_copyA rfl (.tmp 25) (.tmp 27) rfl b9 0 828 828 (some ⟨b7, 3, none⟩) 16 16 828 noA _ Ld 16 (by simp [Act.eval, Act.put]) (by simp [Act.eval, Act.put]) HR8.out.hd (HLD.out _ HR8.out.tl.hd) (by decide) (by decide) ?_; intro wc hcr hct)
      have HRC := Lib.hid (show RwL wc (fun j => (((Kp j ∨ j = b3) ∨ j = b6) ∨ j = b7) ∨ j = b9) [(b9, adO' (num Ld)), (b7, rcO' (tld z)), (b6, ndO' noN), (b3, ptO' g)] from by
        refine (HR8.out.next (below_drewN (Below.refl _ _) 1)).set hct ?_ (fun x hx => ?_)
        · rw [hcr]
          congr 2
          refine arr_congr fun i hi => ?_
          unfold cpA
          by_cases h1 : i < 16
          · rw [if_pos ⟨by omega, by omega⟩, Nat.sub_zero]
          · rw [if_neg (by omega), num_out (by rw [HLN.out.2]; omega)]; rfl
        · have h1 := HN9.out
          have h2 := HNE.out
          simp only [List.mem_cons, List.not_mem_nil, or_false] at hx
          rcases hx with rfl | rfl | rfl
          · show b7 ≠ b9; omega
          · show b6 ≠ b9; omega
          · show b3 ≠ b9; omega)
      have HKC := Lib.hid (show LdK wc (fun j => (((Kp j ∨ j = b3) ∨ j = b6) ∨ j = b7) ∨ j = b9) S g v1 l1 hh from (HK8.out.next (below_drewN (Below.refl _ _) 1)).set hct (.inr rfl) (by have h1 := HN9.out; have h2 := HNE.out; have h3 := HG0.out; omega))
      have HTC := Lib.hid (show Turn (fun j => Tv g v j ∨ w.heap.size ≤ j) w wc from (HT8.out.trans (Turn.of_below (below_drewN (Below.refl _ _) 1))).trans2 hct (fun j e => .inr (by rw [e]; have h1 := HN9.out; have h2 := HNE.out; omega)))
      clear hcr hct HR8 HK8 HT8 hsl HW8
      have x3 : wc.cell? ⟨b3, 0, none⟩ = some (.pointer (some ⟨g, 0, none⟩)) := cell_of_row wc b3 0 _ _ (0, 0) (HRC.out.tl.tl.tl).hd
      have x19 : wc.cell? ⟨b7, 19, none⟩ = some (.int .i64 (tld z 19)) := by rw [cell_of_row wc b7 19 _ _ (0, 0) HRC.out.tl.hd, rcs_get _ (by decide)]
      obtain ⟨p19, hp19⟩ : ∃ p, p = tld z 19 := ⟨_, rfl⟩
      rw [← hp19] at x19
      have hcall := preadS_any S g v1 l1 hh p19 wc HKC.out (by have := HL1.out; have := HL.out; omega)
      obtain ⟨R1, hR1⟩ : ∃ R, R = run S.M S.blk (rdP p19) l1 := ⟨_, rfl⟩
      rw [← hR1] at hcall
      have HR1 := Lib.hid hR1
      have HP19 := Lib.hid hp19
      have HE1 := Lib.hid (show run S.M S.blk (ndP S.M ino q) l = run S.M S.blk ((rdP p19).bind (ndK2 S.M ino z)) l1 by rw [HE.out, ndK1, ← HOK.out, hp19]; rfl)
      clear hp19 hR1 HE
      cases R1 with
      | error er =>
        have HE2 := Lib.hid (show run S.M S.blk (ndP S.M ino q) l = .error er by rw [HE1.out, run_bindE HR1.out.symm])
        go_wp2_with (fail)
        refine hcall.mono ?_
        rintro e w6 ⟨ht, rfl⟩
        exact ⟨rfl, PrN.err HE2.out (TvT.fin (HTC.out.trans2 ht (fun j e => by
          rcases e with e | e
          · exact .inl (.inl (.inl e))
          · rcases HO3.out j e with e1 | e1
            · exact .inl (.inl (.inr e1))
            · exact .inr e1)))⟩
      | ok x1 =>
        obtain ⟨s, l2⟩ := x1
        have HE2 := Lib.hid (show run S.M S.blk (ndP S.M ino q) l = run S.M S.blk (ndK2 S.M ino z s) l2 by rw [HE1.out, run_ok HR1.out.symm])
        have HL2 := Lib.hid (show l2.length ≤ l.length + 2 ∧ s.1.length = 28 by
          have h1 := run_rdP_len HR1.out.symm
          have h2 := HL1.out
          exact ⟨by omega, h1.2⟩)
        go_wp2_with (fail)
        refine hcall.mono ?_
        rintro e w6 ⟨ht, u, v2, rfl, hu, hk, ho⟩
        subst hu
        have HR6 := Lib.hid (HRC.out.call HKC.out ht)
        have HT6 := Lib.hid (show Turn (fun j => Tv g v j ∨ w.heap.size ≤ j) w w6 from HTC.out.trans2 ht (fun j e => by
          rcases e with e | e
          · exact .inl (.inl (.inl e))
          · rcases HO3.out j e with e1 | e1
            · exact .inl (.inl (.inr e1))
            · exact .inr e1))
        have HO6 := Lib.hid (show ∀ j, v2.ownBlock = some j → v.ownBlock = some j ∨ w.heap.size ≤ j from fun j e => by
          rcases ho j e with e1 | e1
          · exact HO3.out j e1
          · exact .inr (Nat.le_trans HTC.out.size e1))
        have HK6 := Lib.hid hk
        clear ht hk ho hcall HRC HKC HTC HO3 x3 x19
        go_wp2_with (fail)
        refine (pput_any b9 16 (num Ld) (num s.1) (by omega) w6 HR6.out.hd).mono ?_
        rintro e w7 ⟨rfl, hcr, hct⟩
        obtain ⟨A1, hA1⟩ : ∃ A1 : List Int, A1 = Ld ++ s.1 := ⟨_, rfl⟩
        have HA1 := Lib.hid (show A1.length = 44 by rw [hA1, List.length_append, HLN.out.2, HL2.out.2])
        have HA1E := Lib.hid hA1
        have HB9N := Lib.hid (show S.w0.heap.size ≤ b9 ∧ w.heap.size ≤ b9 by have h1 := HN9.out; have h2 := HNE.out; have h3 := HG0.out; omega)
        have HR7 := Lib.hid (show RwL w7 (fun j => (((Kp j ∨ j = b3) ∨ j = b6) ∨ j = b7) ∨ j = b9) [(b9, adO' (num A1)), (b7, rcO' (tld z)), (b6, ndO' noN), (b3, ptO' g)] from by
          refine HR6.out.set hct ?_ (fun x hx => ?_)
          · rw [hcr]
            have := cp_app (A := Ld) (p := s.1) (by rw [HLN.out.2]; omega) HL2.out.2
            rw [HLN.out.2] at this
            rw [this, hA1]
          · have h1 := HN9.out
            have h2 := HNE.out
            simp only [List.mem_cons, List.not_mem_nil, or_false] at hx
            rcases hx with rfl | rfl | rfl
            · show b7 ≠ b9; omega
            · show b6 ≠ b9; omega
            · show b3 ≠ b9; omega)
        have HK7 := Lib.hid (HK6.out.set hct (.inr rfl) HB9N.out.1)
        have HT7 := Lib.hid (HT6.out.trans2 hct (fun j e => .inr (by rw [e]; exact HB9N.out.2)))
        clear hcr hct hA1 HR6 HK6 HT6
        have x3 : w7.cell? ⟨b3, 0, none⟩ = some (.pointer (some ⟨g, 0, none⟩)) := cell_of_row w7 b3 0 _ _ (0, 0) (HR7.out.tl.tl.tl).hd
        have x20 : w7.cell? ⟨b7, 20, none⟩ = some (.int .i64 (tld z 20)) := by rw [cell_of_row w7 b7 20 _ _ (0, 0) HR7.out.tl.hd, rcs_get _ (by decide)]
        obtain ⟨p20, hp20⟩ : ∃ p, p = tld z 20 := ⟨_, rfl⟩
        rw [← hp20] at x20
        have hcall := preadS_any S g v2 l2 (hh || s.2) p20 w7 HK7.out (by have := HL2.out.1; have := HL.out; omega)
        obtain ⟨R2, hR2⟩ : ∃ R, R = run S.M S.blk (rdP p20) l2 := ⟨_, rfl⟩
        rw [← hR2] at hcall
        have HR2' := Lib.hid hR2
        have HE3 := Lib.hid (show run S.M S.blk (ndP S.M ino q) l = run S.M S.blk ((rdP p20).bind (ndK3 S.M ino z s)) l2 by rw [HE2.out, ndK2, hp20])
        clear hp20 hR2 HE2 HE1
        cases R2 with
        | error er =>
          have HE4 := Lib.hid (show run S.M S.blk (ndP S.M ino q) l = .error er by rw [HE3.out, run_bindE HR2'.out.symm])
          go_wp2_with (fail)
          refine hcall.mono ?_
          rintro e w8 ⟨ht, rfl⟩
          exact ⟨rfl, PrN.err HE4.out (TvT.fin (HT7.out.stepT ht HO6.out))⟩
        | ok x1 =>
          obtain ⟨d, l3⟩ := x1
          have HE4 := Lib.hid (show run S.M S.blk (ndP S.M ino q) l = run S.M S.blk (ndK3 S.M ino z s d) l3 by rw [HE3.out, run_ok HR2'.out.symm])
          have HL3 := Lib.hid (show l3.length ≤ l.length + 3 ∧ d.1.length = 28 by
            have h1 := run_rdP_len HR2'.out.symm
            have h2 := HL2.out.1
            exact ⟨by omega, h1.2⟩)
          go_wp2_with (fail)
          refine hcall.mono ?_
          rintro e w8 ⟨ht, u, v3, rfl, hu, hk, ho⟩
          subst hu
          obtain ⟨wb, hwb⟩ : ∃ wb, wb = w8.alloc (.cells (arr 28 noA) 91 (0, 0)) := ⟨_, rfl⟩
          obtain ⟨b10, hb10⟩ : ∃ b, b = w8.heap.size := ⟨_, rfl⟩
          have hbb : Below w8.heap.size w8 wb := by rw [hwb]; exact (Below.refl _ _).alloc (Nat.le_refl _) _
          have hrb : wb.heap[b10]? = some (pgO' noA) := by rw [hwb, hb10]; exact heap_alloc_new w8 _
          have HKb := Lib.hid (show LdK wb (fun j => ((((Kp j ∨ j = b3) ∨ j = b6) ∨ j = b7) ∨ j = b9) ∨ j = b10) S g v3 l3 (hh || s.2 || d.2) from hk.box hbb (b := b10) (by omega) (lt_of_block hrb) (fun j e => e))
          have HRb := Lib.hid (show RwL wb (fun j => ((((Kp j ∨ j = b3) ∨ j = b6) ∨ j = b7) ∨ j = b9) ∨ j = b10) [(b10, pgO' noA), (b9, adO' (num A1)), (b7, rcO' (tld z)), (b6, ndO' noN), (b3, ptO' g)] from (HR7.out.call HK7.out ht).box hbb hrb (fun j e => .inl e) (.inr rfl))
          have HTb := Lib.hid ((HT7.out.stepT ht HO6.out).trans (Turn.of_below hbb))
          have HOb := Lib.hid (ho_step HT7.out HO6.out ho)
          have HN10 := Lib.hid (show b9 < b10 by rw [hb10]; exact lt_of_block ((HR7.out.call HK7.out ht).hd))
          have HWB := Lib.hid hwb
          have HB10 := Lib.hid hb10
          clear hcall hwb hb10 hbb hrb hk ht ho HR7 HK7 HT7 HO6 x3 x20
          go_wp2_with (first
            | (refine wpList_alA ar28 (by rfl) rfl ?_; rw [← HWB.out, ← HB10.out])
            | (refine wpList_stA ar28 (by rfl) (.tmp 10) (.tmp 37) rfl b10 rfl (num d.1) noA rfl HRb.out.hd ?_; intro wc hcr ho6 hb6; have hct : Turn (· = b10) wb wc := ⟨(hb6 _ _ (Nat.le_refl _) (Below.refl _ _)).os, (hb6 _ _ (Nat.le_refl _) (Below.refl _ _)).tape, (hb6 _ _ (Nat.le_refl _) (Below.refl _ _)).output, (hb6 _ _ (Nat.le_refl _) (Below.refl _ _)).size, fun k _ hk => ho6 k hk⟩; have HCR := Lib.hid hcr; have HCT := Lib.hid hct; clear hcr ho6 hb6 hct)
            | (refine wpList_ldA ar28 (by rfl) (.tmp 10) rfl b10 rfl (num d.1) HCR.out ?_)
            | fail)
          have HRc := Lib.hid (show RwL wc (fun j => ((((Kp j ∨ j = b3) ∨ j = b6) ∨ j = b7) ∨ j = b9) ∨ j = b10) [(b9, adO' (num A1)), (b10, pgO' (num d.1)), (b7, rcO' (tld z)), (b6, ndO' noN), (b3, ptO' g)] from by
            have h0 := HRb.out.set HCT.out HCR.out (fun x hx => by
              have h1 := HN9.out
              have h2 := HNE.out
              have h3 := HN10.out
              simp only [List.mem_cons, List.not_mem_nil, or_false] at hx
              rcases hx with rfl | rfl | rfl | rfl
              · show b9 ≠ b10; omega
              · show b7 ≠ b10; omega
              · show b6 ≠ b10; omega
              · show b3 ≠ b10; omega)
            exact h0.sub (fun x hx => by
              simp only [List.mem_cons, List.not_mem_nil, or_false] at hx ⊢
              rcases hx with h | h | h | h | h
              · exact .inr (.inl h)
              · exact .inl h
              · exact .inr (.inr (.inl h))
              · exact .inr (.inr (.inr (.inl h)))
              · exact .inr (.inr (.inr (.inr h)))))
          have HKc := Lib.hid (HKb.out.set HCT.out (.inr rfl) (by have h1 := HB9N.out; have h2 := HN10.out; omega))
          have HTc := Lib.hid (HTb.out.trans2 HCT.out (fun j e => .inr (by rw [e]; have h1 := HB9N.out; have h2 := HN10.out; omega)))
          clear HRb HKb HTb HCT HCR
          obtain ⟨nb, hnb⟩ : ∃ nb : Nat, blkN (tld z 2) = (nb : Int) := ⟨(blkN (tld z 2)).toNat, by have := blkN_ge (tld z 2); omega⟩
          have HNB := Lib.hid hnb
          have HNB8 := Lib.hid (show nb ≤ 828 by have := blkN_le (tld z 2); omega)
          have HE5 := Lib.hid (show run S.M S.blk (ndP S.M ino q) l = run S.M S.blk ((ptP d.1 (nb : Int) (28 - 0) 0 [] (s.2 || d.2) (pbW d.1 (nb : Int) 0)).bind (ndK4 S.M ino z s)) l3 by rw [HE4.out, ndK3, hnb]; rfl)
          clear hnb HE3 HE4
          go_loopw [11, 12, 39] (fun v11 v12 v39 wr => ∃ (i : Nat) (acc : List Int) (h : Bool) (l' : List Int) (vx : Value), i ≤ 28 ∧ v39 = .int .i64 i ∧ run S.M S.blk (ndP S.M ino q) l = run S.M S.blk ((ptP d.1 (nb : Int) (28 - i) i acc h (pbW d.1 (nb : Int) i)).bind (ndK4 S.M ino z s)) l' ∧ acc.length = 28 * i ∧ l'.length ≤ l.length + 3 + i ∧ LdK wr (fun j => ((((Kp j ∨ j = b3) ∨ j = b6) ∨ j = b7) ∨ j = b9) ∨ j = b10) S g vx l' (hh || h) ∧ RwL wr (fun j => ((((Kp j ∨ j = b3) ∨ j = b6) ∨ j = b7) ∨ j = b9) ∨ j = b10) [(b9, adO' (num (A1 ++ acc))), (b10, pgO' (num d.1)), (b7, rcO' (tld z)), (b6, ndO' noN), (b3, ptO' g)] ∧ Turn (fun j => Tv g v j ∨ w.heap.size ≤ j) w wr ∧ (∀ j, vx.ownBlock = some j → v.ownBlock = some j ∨ w.heap.size ≤ j)) (fun _ _ v39 _ => 28 - (RowKit.intOf v39).toNat)
          case atStart => exact ⟨0, [], s.2 || d.2, l3, v3, by omega, rfl, HE5.out, rfl, by have := HL3.out.1; omega, by rw [← Bool.or_assoc]; exact HKc.out, by rw [List.append_nil]; exact HRc.out, HTc.out, HOb.out⟩
          case round =>
            obtain ⟨i, acc, h, l', vx, hi, rfl, hE, hacc, hl', hK, hR, hT, hO⟩ := hrel
            have HE := Lib.hid hE
            have HAC := Lib.hid hacc
            have HLX := Lib.hid hl'
            have HKr := Lib.hid hK
            have HRr := Lib.hid hR
            have HTr := Lib.hid hT
            have HOr := Lib.hid hO
            clear hE hacc hl' hK hR hT hO HE5 HKc HRc HTc HOb
            by_cases hlt : i < 28
            · have k1 : (i : Int) < 28 := by omega
              have HLT := Lib.hid hlt
              have hix := fun w => run_idxA 91 28 Try.underlying91 (num d.1) i hlt w
              obtain ⟨pz, hpz⟩ : ∃ p, p = num d.1 i := ⟨_, rfl⟩
              rw [← hpz] at hix
              have HPZ := Lib.hid hpz
              obtain ⟨kk, hkk⟩ : ∃ kk, kk = 44 + 28 * i := ⟨_, rfl⟩
              have hfo := pfirst_any i (by omega)
              rw [← hkk] at hfo
              have HKK := Lib.hid hkk
              have HES := Lib.hid (show run S.M S.blk (ndP S.M ino q) l = run S.M S.blk (((rdP pz).bind fun p => ptP d.1 (nb : Int) (28 - (i + 1)) (i + 1) (acc ++ p.1) (h || p.2) (pbW d.1 (nb : Int) i || (num d.1 i != 0 && decide ((nb : Int) ≤ 44 + 28 * (i : Int))))).bind (ndK4 S.M ino z s)) l' by
                rw [HE.out, ptP_succ _ _ hlt, ← hpz])
              clear hpz hkk hlt HE
              go_upto_region 10 with fail
              have c3 : wr.cell? ⟨b3, 0, none⟩ = some (.pointer (some ⟨g, 0, none⟩)) := cell_of_row wr b3 0 _ _ (0, 0) (HRr.out.tl.tl.tl.tl).hd
              refine wp_region_held_drew (S := (fun w' => w'.cell? ⟨b3, 0, none⟩ = some (.pointer (some ⟨g, 0, none⟩)))) (by kernel_rfl) c3 (fun hHeld => ?_)
              have HK8 := Lib.hid (show LdK wr.drew (fun j => ((((Kp j ∨ j = b3) ∨ j = b6) ∨ j = b7) ∨ j = b9) ∨ j = b10) S g vx l' (hh || h) from HKr.out.next (below_drewN (Below.refl _ _) 1))
              have HR8 := Lib.hid (show RwL wr.drew (fun j => ((((Kp j ∨ j = b3) ∨ j = b6) ∨ j = b7) ∨ j = b9) ∨ j = b10) [(b9, adO' (num (A1 ++ acc))), (b10, pgO' (num d.1)), (b7, rcO' (tld z)), (b6, ndO' noN), (b3, ptO' g)] from HRr.out.next (below_drewN (Below.refl _ _) 1))
              have HT8 := Lib.hid (show Turn (fun j => Tv g v j ∨ w.heap.size ≤ j) w wr.drew from HTr.out.trans (Turn.of_below (below_drewN (Below.refl _ _) 1)))
              clear c3 HKr HRr HTr
              generalize hw8 : wr.drew = w8' at *
              clear hw8
              refine wpAnyH_take (i := 0) (v := ?_) rfl (by kernel_rfl) (by kernel_rfl) (by kernel_rfl) (fun _ _ _ h => h) (Or.inl ⟨by rfl, fun w hSw => ?_⟩) (by assumption) ?_
              rotate_left
              · (try dsimp only at hSw); go_simp; try with_reducible rfl
              simp only [Act.put, List.setIfInBounds_toArray, List.set_cons_zero, List.set_cons_succ, List.getElem_toArray, List.getElem_cons_zero]
              refine wpAnyH_take (i := 2) (v := ?_) rfl (by kernel_rfl) (by kernel_rfl) (by kernel_rfl) (fun _ _ _ h => h) (Or.inl ⟨by rfl, fun w hSw => ?_⟩) (by assumption) ?_
              rotate_left
              · (try dsimp only at hSw); go_simp; try with_reducible rfl
              simp only [Act.put, List.setIfInBounds_toArray, List.set_cons_zero, List.set_cons_succ, List.getElem_toArray, List.getElem_cons_succ, List.getElem_cons_zero]
              refine wpAnyH_take (i := 3) (v := ?_) rfl (by kernel_rfl) (by kernel_rfl) (by kernel_rfl) (fun _ _ _ h => h) (Or.inl ⟨by rfl, fun w hSw => ?_⟩) (by assumption) ?_
              rotate_left
              · (try dsimp only at hSw); go_simp; try with_reducible rfl
              simp only [Act.put, List.setIfInBounds_toArray, List.set_cons_zero, List.set_cons_succ, List.getElem_toArray, List.getElem_cons_succ, List.getElem_cons_zero]
              refine wpAnyH_ready (rs := [1]) (by kernel_rfl) (by simp) ?_
              refine AllReadyH.cons rfl (fun K hK => ?_) AllReadyH.nil
              simp only [List.getElem_toArray, List.getElem_cons_succ, List.getElem_cons_zero]
              go_simp
              refine (hfo w8').mono ?_
              rintro e w9 ⟨rfl, rfl⟩
              clear hfo
              go_wp2_with (fail)
              refine hK.out _ _ (cell_of_row w8' b3 0 _ _ (0, 0) (HR8.out.tl.tl.tl.tl).hd) (fun hHeld => ?_)
              clear hK K
              have hcall := preadS_any S g vx l' (hh || h) pz w8' HK8.out (by have := HLX.out; have := HLT.out; have := HL.out; omega)
              obtain ⟨R3, hR3⟩ : ∃ R, R = run S.M S.blk (rdP pz) l' := ⟨_, rfl⟩
              rw [← hR3] at hcall
              have HR3 := Lib.hid hR3
              clear hR3
              cases R3 with
              | error er =>
                have HE6 := Lib.hid (show run S.M S.blk (ndP S.M ino q) l = .error er by rw [HES.out, run_err2 HR3.out.symm])
                refine wpAnyH_ready (rs := [4]) (by kernel_rfl) (by simp) ?_
                refine AllReadyH.cons rfl (fun K hK => ?_) AllReadyH.nil
                simp only [List.getElem_toArray, List.getElem_cons_succ, List.getElem_cons_zero]
                go_simp
                refine hcall.mono ?_
                rintro e w9 ⟨ht, rfl⟩
                exact ⟨rfl, PrN.err HE6.out (TvT.fin (HT8.out.stepT ht HOr.out))⟩
              | ok x1 =>
                obtain ⟨p, l4⟩ := x1
                have hpl := run_rdP_len HR3.out.symm
                have HE6 := Lib.hid (show run S.M S.blk (ndP S.M ino q) l = run S.M S.blk ((ptP d.1 (nb : Int) (28 - (i + 1)) (i + 1) (acc ++ p.1) (h || p.2) (pbW d.1 (nb : Int) (i + 1))).bind (ndK4 S.M ino z s)) l4 by rw [HES.out, run_ok2 HR3.out.symm]; rfl)
                have HPL := Lib.hid hpl
                clear hpl
                refine wpAnyH_ready (rs := [4]) (by kernel_rfl) (by simp) ?_
                refine AllReadyH.cons rfl (fun K hK => ?_) AllReadyH.nil
                simp only [List.getElem_toArray, List.getElem_cons_succ, List.getElem_cons_zero]
                go_simp
                refine hcall.mono ?_
                rintro e w9 ⟨ht, u, v4, rfl, hu, hk, ho⟩
                subst hu
                have HR9 := Lib.hid (HR8.out.call HK8.out ht)
                have HT9 := Lib.hid (HT8.out.stepT ht HOr.out)
                have HO9 := Lib.hid (ho_step HT8.out HOr.out ho)
                have HK9 := Lib.hid hk
                clear ht hk ho hcall HR8 HT8 HK8
                go_wp2_with (fail)
                refine hK.out _ _ (cell_of_row w9 b3 0 _ _ (0, 0) (HR9.out.tl.tl.tl.tl).hd) (fun hHeld => ?_)
                clear hK K
                refine wpAnyH_ready (rs := [5]) (by kernel_rfl) (by simp) ?_
                refine AllReadyH.cons rfl (fun K hK => ?_) AllReadyH.nil
                simp only [List.getElem_toArray, List.getElem_cons_succ, List.getElem_cons_zero]
                go_simp
                refine (pput_any b9 kk (num (A1 ++ acc)) (num p.1) (by have := HKK.out; have := HLT.out; omega) w9 HR9.out.hd).mono ?_
                rintro e w10 ⟨rfl, hcr, hct⟩
                have HR10 := Lib.hid (show RwL w10 (fun j => ((((Kp j ∨ j = b3) ∨ j = b6) ∨ j = b7) ∨ j = b9) ∨ j = b10) [(b9, adO' (num (A1 ++ (acc ++ p.1)))), (b10, pgO' (num d.1)), (b7, rcO' (tld z)), (b6, ndO' noN), (b3, ptO' g)] from by
                  refine HR9.out.set hct ?_ (fun x hx => ?_)
                  · rw [hcr]
                    have hal : (A1 ++ acc).length = kk := by rw [List.length_append, HA1.out, HAC.out, HKK.out]
                    have := cp_app (A := A1 ++ acc) (p := p.1) (by rw [hal]; have := HKK.out; have := HLT.out; omega) HPL.out.2
                    rw [hal] at this
                    rw [this, List.append_assoc]
                  · have h1 := HN9.out
                    have h2 := HNE.out
                    have h3 := HN10.out
                    simp only [List.mem_cons, List.not_mem_nil, or_false] at hx
                    rcases hx with rfl | rfl | rfl | rfl
                    · show b10 ≠ b9; omega
                    · show b7 ≠ b9; omega
                    · show b6 ≠ b9; omega
                    · show b3 ≠ b9; omega)
                have HK10 := Lib.hid (HK9.out.set hct (.inl (.inr rfl)) HB9N.out.1)
                have HT10 := Lib.hid (HT9.out.trans2 hct (fun j e => .inr (by rw [e]; exact HB9N.out.2)))
                clear hcr hct HR9 HK9 HT9
                go_wp2_with (fail)
                refine hK.out _ _ (cell_of_row w10 b3 0 _ _ (0, 0) (HR10.out.tl.tl.tl.tl).hd) (fun hHeld => ?_)
                clear hK K
                refine wpAnyH_done (by kernel_rfl) ?_ _
                go_wp2_with (fail)
                go_roundw
                case rel => exact ⟨i + 1, acc ++ p.1, h || p.2, l4, v4, by have := HLT.out; omega, by go_num, HE6.out, by rw [List.length_append, HAC.out, HPL.out.2]; omega, by have := HPL.out.1; have := HLX.out; omega, by rw [← Bool.or_assoc]; exact HK10.out, HR10.out, HT10.out, HO9.out⟩
                case measure => have := HLT.out; simp [RowKit.intOf]; omega
            · have hi28 : i = 28 := by omega
              have k1 : ¬ (i : Int) < 28 := by omega
              obtain ⟨AA, hAA⟩ : ∃ A, A = A1 ++ acc := ⟨_, rfl⟩
              have HAA := Lib.hid (show AA.length = 828 by rw [hAA, List.length_append, HA1.out, HAC.out, hi28])
              have HFIN := Lib.hid (show run S.M S.blk (ndP S.M ino q) l = if ((hbO (num AA) nb || pbO (num d.1) nb) || bdO S.M AA nb) = true then .error 15 else .ok ((⟨ino, tld z 0, tld z 1, tld z 2, trm AA⟩, h), l') by
                have h1 := HE.out
                rw [hi28] at h1
                have h2 : run S.M S.blk ((ptP d.1 (nb : Int) (28 - 28) 28 acc h (pbW d.1 (nb : Int) 28)).bind (ndK4 S.M ino z s)) l' = run S.M S.blk (ndK4 S.M ino z s (acc, h, pbW d.1 (nb : Int) 28)) l' := rfl
                rw [h1, h2, ndK4]
                have h3 : dir (tld z) ++ s.1 ++ acc = AA := by rw [hAA, HA1E.out, HLN.out.1]
                dsimp only
                rw [h3, HNB.out, wr_is HAA.out HNB8.out]
                cases ((hbO (num AA) nb || pbO (num d.1) nb) || bdO S.M AA nb) with
                | true => rfl
                | false => rfl)
              rw [← hAA] at HRr
              have HTRM := Lib.hid (fun e => trm_is (A := AA) (nb := nb) HAA.out HNB8.out e)
              have x2 : wr.cell? ⟨b7, 2, none⟩ = some (.int .i64 (tld z 2)) := by rw [cell_of_row wr b7 2 _ _ (0, 0) HRr.out.tl.tl.hd, rcs_get _ (by decide)]
              obtain ⟨p2, hp2⟩ : ∃ p, p = tld z 2 := ⟨_, rfl⟩
              rw [← hp2] at x2
              have hblk := blocks_any p2 wr
              rw [show blkN p2 = (nb : Int) by rw [hp2]; exact HNB.out] at hblk
              obtain ⟨t1, ht1⟩ : ∃ b, b = hbO (num AA) nb := ⟨_, rfl⟩
              obtain ⟨t2, ht2⟩ : ∃ b, b = pbO (num d.1) nb := ⟨_, rfl⟩
              obtain ⟨t3, ht3⟩ : ∃ b, b = bdO S.M AA nb := ⟨_, rfl⟩
              rw [← ht1, ← ht2, ← ht3] at HFIN
              have HT1 := Lib.hid ht1
              have HT2' := Lib.hid ht2
              have HT3' := Lib.hid ht3
              have HP2 := Lib.hid hp2
              clear hi28 hAA hlt hi HE ht1 ht2 ht3 hp2
              go_wp2_with (fail)
              refine hblk.mono ?_
              rintro e w9 ⟨rfl, rfl⟩
              clear hblk x2
              go_wp2_with (first | (refine wpList_ldA arA (by rfl) (.tmp 9) rfl b9 rfl (num AA) HRr.out.hd ?_) | fail)
              have hcall := phas_any (num AA) nb HNB8.out wr
              rw [← HT1.out] at hcall
              refine hcall.mono ?_
              rintro e w9 ⟨rfl, hb⟩
              have HK9 := Lib.hid (HKr.out.next hb)
              have HR9 := Lib.hid (HRr.out.next hb)
              have HT9 := Lib.hid (HTr.out.trans (Turn.of_below hb))
              clear hb hcall HKr HRr HTr
              cases t1 with
              | true =>
                have HE6 := Lib.hid (show run S.M S.blk (ndP S.M ino q) l = .error 15 by rw [HFIN.out]; rfl)
                go_wp2_with (fail)
                refine (refuse_yes w9).mono ?_
                rintro e w10 ⟨rfl, rfl⟩
                exact ⟨rfl, PrN.err HE6.out (TvT.fin HT9.out)⟩
              | false =>
                go_wp2_with (first | (refine wpList_ldA ar28 (by rfl) (.tmp 10) rfl b10 rfl (num d.1) HR9.out.tl.hd ?_) | fail)
                have hcall := ppoints_any (num d.1) nb w9
                rw [← HT2'.out] at hcall
                refine hcall.mono ?_
                rintro e w10 ⟨rfl, hb⟩
                have HK10 := Lib.hid (HK9.out.next hb)
                have HR10 := Lib.hid (HR9.out.next hb)
                have HT10 := Lib.hid (HT9.out.trans (Turn.of_below hb))
                clear hb hcall HK9 HR9 HT9
                cases t2 with
                | true =>
                  have HE6 := Lib.hid (show run S.M S.blk (ndP S.M ino q) l = .error 15 by rw [HFIN.out]; rfl)
                  go_wp2_with (fail)
                  refine (refuse_yes w10).mono ?_
                  rintro e w11 ⟨rfl, rfl⟩
                  exact ⟨rfl, PrN.err HE6.out (TvT.fin HT10.out)⟩
                | false =>
                  have hslh := run_slA_h b9 nb HNB8.out
                  have HAT := Lib.hid (show ∀ w' : World, w'.heap[b9]? = some (adO' (num AA)) → Ins w' (some ⟨b9, 0, none⟩) nb (AA.take nb) from fun w' hr => by
                    refine ⟨by rw [List.length_take, HAA.out]; have := HNB8.out; omega, .inr ⟨b9, 0, rfl, lt_of_block hr, fun i hi => ?_⟩⟩
                    rw [cell_of_row w' b9 (0 + i) _ _ (0, 0) hr, Nat.zero_add, arr_at _ (by have := HNB8.out; omega), num_take' hi])
                  obtain ⟨AT, hAT⟩ : ∃ L, L = AA.take nb := ⟨_, rfl⟩
                  rw [← hAT] at HAT
                  have HAT3 := Lib.hid (show t3 = AT.any fun a => a != 0 && !isA S.M a by rw [HT3'.out, hAT]; rfl)
                  have HATT := Lib.hid (show trm AT = trm AA by rw [hAT]; exact HTRM.out HT1.out.symm)
                  clear hAT
                  go_wp2_with (fail)
                  refine (refuse_no w10).mono ?_
                  rintro e w11 ⟨rfl, rfl⟩
                  go_wp2_with (fail)
                  have hcall := containsI_any 143 _ enters_nd1 _ w10 (gives_nd1 S g b3 w10 HK10.out HR10.out.tl.tl.tl.tl.hd) (some ⟨b9, 0, none⟩) nb 828 AT (HAT.out _ HR10.out.hd) (by have := HNB8.out; omega)
                  rw [← HAT3.out] at hcall
                  refine hcall.mono ?_
                  rintro e w11 ⟨rfl, hb⟩
                  have HK11 := Lib.hid (HK10.out.next hb)
                  have HR11 := Lib.hid (HR10.out.next hb)
                  have HT11 := Lib.hid (HT10.out.trans (Turn.of_below hb))
                  clear hb hcall HK10 HR10 HT10 hslh hmf
                  cases t3 with
                  | true =>
                    have HE6 := Lib.hid (show run S.M S.blk (ndP S.M ino q) l = .error 15 by rw [HFIN.out]; rfl)
                    go_wp2_with (fail)
                    refine (refuse_yes w11).mono ?_
                    rintro e w12 ⟨rfl, rfl⟩
                    exact ⟨rfl, PrN.err HE6.out (TvT.fin HT11.out)⟩
                  | false =>
                    have HE6 := Lib.hid (show run S.M S.blk (ndP S.M ino q) l = .ok ((⟨ino, tld z 0, tld z 1, tld z 2, trm AA⟩, h), l') by rw [HFIN.out]; rfl)
                    go_wp2_with (fail)
                    refine (refuse_no w11).mono ?_
                    rintro e w12 ⟨rfl, rfl⟩
                    go_upto_region 16 with fail
                    have HSV := Lib.hid (show ∀ w' : World, w'.heap[b7]? = some (rcO' (tld z)) → w'.cell? ⟨b7, 0, none⟩ = some (.int .i64 (tld z 0)) ∧ w'.cell? ⟨b7, 1, none⟩ = some (.int .i64 (tld z 1)) ∧ w'.cell? ⟨b7, 2, none⟩ = some (.int .i64 (tld z 2)) from fun w' hr => by
                      refine ⟨?_, ?_, ?_⟩ <;> rw [cell_of_row w' b7 _ _ _ (0, 0) hr, rcs_get _ (by decide)])
                    obtain ⟨q0, hq0⟩ : ∃ p, p = tld z 0 := ⟨_, rfl⟩
                    obtain ⟨q1, hq1⟩ : ∃ p, p = tld z 1 := ⟨_, rfl⟩
                    rw [← hq0, ← hq1, ← HP2.out] at HSV HE6
                    refine wp_region_held_drew (S := (fun w' => w'.cell? ⟨b7, 0, none⟩ = some (.int .i64 q0) ∧ w'.cell? ⟨b7, 1, none⟩ = some (.int .i64 q1) ∧ w'.cell? ⟨b7, 2, none⟩ = some (.int .i64 p2))) (by kernel_rfl) (HSV.out _ HR11.out.tl.tl.hd) (fun hHeld => ?_)
                    have HK12 := Lib.hid (show LdK w11.drew (fun j => ((((Kp j ∨ j = b3) ∨ j = b6) ∨ j = b7) ∨ j = b9) ∨ j = b10) S g vx l' (hh || h) from HK11.out.next (below_drewN (Below.refl _ _) 1))
                    have HR12 := Lib.hid (show RwL w11.drew (fun j => ((((Kp j ∨ j = b3) ∨ j = b6) ∨ j = b7) ∨ j = b9) ∨ j = b10) [(b9, adO' (num AA)), (b10, pgO' (num d.1)), (b7, rcO' (tld z)), (b6, ndO' noN), (b3, ptO' g)] from HR11.out.next (below_drewN (Below.refl _ _) 1))
                    have HT12 := Lib.hid (show Turn (fun j => Tv g v j ∨ w.heap.size ≤ j) w w11.drew from HT11.out.trans (Turn.of_below (below_drewN (Below.refl _ _) 1)))
                    clear hq0 hq1 HK11 HR11 HT11
                    generalize hw12 : w11.drew = w12 at *
                    clear hw12
                    refine wpAnyH_take (i := 0) (v := ?_) rfl (by kernel_rfl) (by kernel_rfl) (by kernel_rfl) (fun _ _ _ h => h) (Or.inl ⟨by rfl, fun w hSw => ?_⟩) (by assumption) ?_
                    rotate_left
                    · (try dsimp only at hSw); go_simp; try with_reducible rfl
                    simp only [Act.put, List.setIfInBounds_toArray, List.set_cons_zero, List.set_cons_succ, List.getElem_toArray, List.getElem_cons_zero]
                    refine wpAnyH_take (i := 1) (v := ?_) rfl (by kernel_rfl) (by kernel_rfl) (by kernel_rfl) (fun _ _ _ h => h) (Or.inl ⟨by rfl, fun w hSw => ?_⟩) (by assumption) ?_
                    rotate_left
                    · (try dsimp only at hSw); go_simp; try with_reducible rfl
                    simp only [Act.put, List.setIfInBounds_toArray, List.set_cons_zero, List.set_cons_succ, List.getElem_toArray, List.getElem_cons_succ, List.getElem_cons_zero]
                    refine wpAnyH_take (i := 2) (v := ?_) rfl (by kernel_rfl) (by kernel_rfl) (by kernel_rfl) (fun _ _ _ h => h) (Or.inl ⟨by rfl, fun w hSw => ?_⟩) (by assumption) ?_
                    rotate_left
                    · (try dsimp only at hSw); go_simp; try with_reducible rfl
                    simp only [Act.put, List.setIfInBounds_toArray, List.set_cons_zero, List.set_cons_succ, List.getElem_toArray, List.getElem_cons_succ, List.getElem_cons_zero]
                    refine wpAnyH_take (i := 3) (v := ?_) rfl (by kernel_rfl) (by kernel_rfl) (by kernel_rfl) (fun _ _ _ h => h) (Or.inl ⟨by rfl, fun w hSw => ?_⟩) (by assumption) ?_
                    rotate_left
                    · (try dsimp only at hSw); go_simp; try with_reducible rfl
                    simp only [Act.put, List.setIfInBounds_toArray, List.set_cons_zero, List.set_cons_succ, List.getElem_toArray, List.getElem_cons_succ, List.getElem_cons_zero]
                    refine wpAnyH_take (i := 4) (v := ?_) rfl (by kernel_rfl) (by kernel_rfl) (by kernel_rfl) (fun _ _ _ h => h) (Or.inl ⟨by rfl, fun w hSw => ?_⟩) (by assumption) ?_
                    rotate_left
                    · (try dsimp only at hSw); go_simp; try with_reducible rfl
                    simp only [Act.put, List.setIfInBounds_toArray, List.set_cons_zero, List.set_cons_succ, List.getElem_toArray, List.getElem_cons_succ, List.getElem_cons_zero]
                    refine wpAnyH_take (i := 5) (v := ?_) rfl (by kernel_rfl) (by kernel_rfl) (by kernel_rfl) (fun _ _ _ h => h) (Or.inl ⟨by rfl, fun w hSw => ?_⟩) (by assumption) ?_
                    rotate_left
                    · (try dsimp only at hSw); go_simp; try with_reducible rfl
                    simp only [Act.put, List.setIfInBounds_toArray, List.set_cons_zero, List.set_cons_succ, List.getElem_toArray, List.getElem_cons_succ, List.getElem_cons_zero]
                    refine wpAnyH_take (i := 6) (v := ?_) rfl (by kernel_rfl) (by kernel_rfl) (by kernel_rfl) (fun _ _ _ h => h) (Or.inl ⟨by rfl, fun w hSw => ?_⟩) (by assumption) ?_
                    rotate_left
                    · (try dsimp only at hSw); go_simp; try with_reducible rfl
                    simp only [Act.put, List.setIfInBounds_toArray, List.set_cons_zero, List.set_cons_succ, List.getElem_toArray, List.getElem_cons_succ, List.getElem_cons_zero]
                    refine wpAnyH_take (i := 7) (v := ?_) rfl (by kernel_rfl) (by kernel_rfl) (by kernel_rfl) (fun _ _ _ h => h) (Or.inl ⟨by rfl, fun w hSw => ?_⟩) (by assumption) ?_
                    rotate_left
                    · (try dsimp only at hSw); go_simp; try with_reducible rfl
                    simp only [Act.put, List.setIfInBounds_toArray, List.set_cons_zero, List.set_cons_succ, List.getElem_toArray, List.getElem_cons_succ, List.getElem_cons_zero]
                    refine wpAnyH_ready (rs := [8]) (by kernel_rfl) (by simp) ?_
                    refine AllReadyH.cons rfl (fun K hK => ?_) AllReadyH.nil
                    simp only [List.getElem_toArray, List.getElem_cons_succ, List.getElem_cons_zero]
                    go_simp
                    refine (ptrim_any ⟨b9, 0, none⟩ nb 828 AT w12 (HAT.out _ HR12.out.hd) HNB8.out HNB8.out).mono ?_
                    rintro e w13 ⟨a', c', rfl, hi, hnil, hnew, hb⟩
                    rw [HATT.out] at hi hnil ⊢
                    have HK13 := Lib.hid (show LdK w13 (fun j => (((((Kp j ∨ j = b3) ∨ j = b6) ∨ j = b7) ∨ j = b9) ∨ j = b10) ∨ ∃ x, a' = some x ∧ x.block = j) S g vx l' (hh || h) from HK12.out.grown (M := fun _ => False) (Turn.of_below hb) (fun j e => e.elim) (fun j e => by
                      rcases e with e | ⟨x, e1, e2⟩
                      · exact .inl e
                      · rw [← e2]; exact .inr (hnew x e1)))
                    have HR13 := Lib.hid (HR12.out.next hb)
                    have HT13 := Lib.hid (HT12.out.trans (Turn.of_below hb))
                    obtain ⟨m, hm⟩ : ∃ m, m = (trm AA).length := ⟨_, rfl⟩
                    rw [← hm] at hi hnil ⊢
                    have HI := Lib.hid hi
                    have HNIL := Lib.hid hnil
                    have HNW := Lib.hid (show ∀ x, a' = some x → b6 < x.block ∧ x.block < w13.heap.size from fun x e => by
                      have h1 := hnew x e
                      have h2 := lt_of_block HR12.out.tl.tl.tl.hd
                      omega)
                    have HNW2 := Lib.hid (show ∀ x, a' = some x → w.heap.size ≤ x.block from fun x e => Nat.le_trans HT12.out.size (hnew x e).1)
                    have HMM := Lib.hid (show m ≤ 828 by rw [hm, trm, List.length_take, HAA.out]; omega)
                    clear hi hnil hnew hb hm HK12 HR12 HT12
                    go_wp2_with (fail)
                    refine hK.out _ _ (HSV.out _ HR13.out.tl.tl.hd) (fun hHeld => ?_)
                    clear hK K
                    refine wpAnyH_take (i := 9) (v := ?_) rfl (by kernel_rfl) (by kernel_rfl) (by kernel_rfl) (fun _ _ _ h => h) (Or.inl ⟨by rfl, fun w hSw => ?_⟩) (by assumption) ?_
                    rotate_left
                    · (try dsimp only at hSw); go_simp; try with_reducible rfl
                    simp only [Act.put, List.setIfInBounds_toArray, List.set_cons_zero, List.set_cons_succ, List.getElem_toArray, List.getElem_cons_succ, List.getElem_cons_zero]
                    refine wpAnyH_ready (rs := [10]) (by kernel_rfl) (by simp) ?_
                    refine AllReadyH.cons rfl (fun K hK => ?_) AllReadyH.nil
                    simp only [List.getElem_toArray, List.getElem_cons_succ, List.getElem_cons_zero]
                    rw [if_pos (by rfl)]
                    obtain ⟨y, hy⟩ : ∃ y : Nw, y = ⟨ino, q0, q1, p2, a', m, c', trm AA⟩ := ⟨_, rfl⟩
                    refine wp_stN (.tmp 6) (.tmp 77) rfl b6 rfl y noN (by rw [hy]; rfl) HR13.out.tl.tl.tl.hd (fun we hBe hTe => ?_)
                    simp only [Act.put, List.setIfInBounds_toArray, List.set_cons_zero, List.set_cons_succ, List.getElem_toArray, List.getElem_cons_succ, List.getElem_cons_zero]
                    have HBE := Lib.hid hBe
                    have HTE := Lib.hid hTe
                    have HY := Lib.hid hy
                    clear hBe hTe hy
                    refine hK.out _ _ (HSV.out _ ((HTE.out.block b7 (lt_of_block HR13.out.tl.tl.hd) (by show ¬ b7 = b6; have := HN9.out; omega)).trans HR13.out.tl.tl.hd)) (fun hHeld => ?_)
                    clear hK K
                    refine wpAnyH_done (by kernel_rfl) ?_ _
                    go_wp2_with (fail)
                    refine bodyPost_ret (v := nwV y) ?_ rfl ?_
                    · exact res_c1 rfl _ _ ⟨b6, 0, none⟩ _ rfl (load_nw HBE.out)
                    · refine PrN.ok HE6.out (TvT.fin (HT13.out.trans2 HTE.out (fun j e => .inr (by rw [e]; have := HNE.out; omega)))) ⟨?_, ?_, ?_⟩ ?_ ?_ ?_ HOr.out
                      · rw [HY.out]
                        exact HI.out.turn HTE.out (fun x e => by have := (HNW.out x e).1; show ¬ x.block = b6; omega)
                      · rw [HY.out]; exact HNIL.out
                      · rw [HY.out]; have := HMM.out; show m ≤ _; omega
                      · rw [HY.out]; rfl
                      · rw [HY.out]
                        intro x e
                        exact ⟨HNW2.out x e, Nat.lt_of_lt_of_le (HNW.out x e).2 HTE.out.size⟩
                      · rw [HY.out]
                        exact (HK13.out.set HTE.out (.inl (.inl (.inl (.inl (.inr rfl))))) (by have h1 := HNE.out; have h2 := HG0.out; omega)).sub (fun j e => by
                          rcases e with e | e
                          · exact .inl (.inl (.inl (.inl (.inl (.inl e)))))
                          · exact .inr e)
end Go.Proofs.Ytegcjpocdfmpfaa
