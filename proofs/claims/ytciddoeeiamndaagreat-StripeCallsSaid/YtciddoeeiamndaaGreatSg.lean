/-
  The laws' own helpers, by contract: Small, Open.
-/
import Derived.Test.YtciddoeeiamndaaGreatSf
namespace Go.Proofs.YtciddoeeiamndaaGreat
open Go.RowKit Go.Maps
set_option linter.unusedVariables false

theorem small_any (w : World) : Calls Tryz.prog 10 #[] w fun e w' => e = .returned (gv 3 3 12) ∧ Below w.heap.size w w' := by
  go_enter Tryz.func10, Tryz.ntmps10
  go_wp2_with (fail)
  exact bodyPost_ret (v := gv 3 3 12) (by simp [results, Tryz.results10, go_sem]) rfl ⟨rfl, (Below.refl _ _).alloc (Nat.le_refl _) _⟩
/-- The bank that a law opens. -/
abbrev B0 : Bn := ⟨3, 3, 12, 0, 0, 0⟩
set_option maxRecDepth 100000 in
set_option maxHeartbeats 1000000 in
theorem open_small (w : World) : Calls Tryz.prog 7 #[mb 0 0 0] w fun e w' => ∃ L b, e = .returned (.tuple #[.pointer (some ⟨b, 0, none⟩), .pointer (some ⟨L.p, 0, none⟩)]) ∧ St w (also (L.M 4) (· = b)) L b (newRk 4 41) B0 w' := by
  obtain ⟨W1, hW1⟩ : ∃ W1, W1 = w.alloc (.cells #[.int .i64 0, .int .i64 0, .int .i64 0] 23 (0, 0)) := ⟨_, rfl⟩
  have hB1 : Below w.heap.size w W1 := by rw [hW1]; exact (Below.refl _ _).alloc (Nat.le_refl _) _
  have s0 : W1.cell? ⟨w.heap.size, 0, none⟩ = some (.int .i64 0) := by rw [hW1]; simp
  have s1 : W1.cell? ⟨w.heap.size, 1, none⟩ = some (.int .i64 0) := by rw [hW1]; simp
  have s2 : W1.cell? ⟨w.heap.size, 2, none⟩ = some (.int .i64 0) := by rw [hW1]; simp
  have hgl : w.heap.size < W1.heap.size := by rw [hW1]; simp
  go_enter Tryz.func7, Tryz.ntmps7
  go_wp2_with (fail)
  rw [← hW1]
  clear hW1
  refine (small_any W1).mono ?_
  rintro e w2 ⟨rfl, hb2⟩
  have hB2 := hB1.trans (hb2.mono hB1.size)
  have t0 := (hb2.cell (p := ⟨w.heap.size, 0, none⟩) hgl).trans s0
  have t1 := (hb2.cell (p := ⟨w.heap.size, 1, none⟩) hgl).trans s1
  have t2 := (hb2.cell (p := ⟨w.heap.size, 2, none⟩) hgl).trans s2
  have hgl2 := Nat.lt_of_lt_of_le hgl hb2.size
  clear s0 s1 s2 hgl hb2 hB1
  go_wp2_with (fail)
  refine (sectors_all 3 3 12 w2).mono ?_
  rintro e w3 ⟨rfl, hb3⟩
  rw [sect_small]
  have hB3 := hB2.trans (hb3.mono hB2.size)
  have s0 := (hb3.cell (p := ⟨w.heap.size, 0, none⟩) hgl2).trans t0
  have s1 := (hb3.cell (p := ⟨w.heap.size, 1, none⟩) hgl2).trans t1
  have s2 := (hb3.cell (p := ⟨w.heap.size, 2, none⟩) hgl2).trans t2
  have hgl3 := Nat.lt_of_lt_of_le hgl2 hb3.size
  clear t0 t1 t2 hgl2 hb3 hB2
  go_wp2_with (fail)
  refine (new_ok 4 41 w3 (by omega) (by omega) (by omega) (by omega)).mono ?_
  rintro e w4 ⟨L, rfl, hr4, hM0, hb4⟩
  have hB4 := hB3.trans (hb4.mono hB3.size)
  have t0 := (hb4.cell (p := ⟨w.heap.size, 0, none⟩) hgl3).trans s0
  have t1 := (hb4.cell (p := ⟨w.heap.size, 1, none⟩) hgl3).trans s1
  have t2 := (hb4.cell (p := ⟨w.heap.size, 2, none⟩) hgl3).trans s2
  have hgl4 := Nat.lt_of_lt_of_le hgl3 hb4.size
  have HLO : Hid (∀ k, L.M 4 k → w.heap.size ≤ k) := fun k hk => Nat.le_trans hB3.size (hM0 k hk)
  have HR := Lib.hid hr4
  have HB4 := Lib.hid hB4
  clear s0 s1 s2 hgl3 hb4 hB3 hB4 hM0 hr4
  go_wp2_with (fail)
  refine wp_region_held_drew (S := fun w' => w'.cell? ⟨w.heap.size, 0, none⟩ = some (.int .i64 0) ∧ w'.cell? ⟨w.heap.size, 1, none⟩ = some (.int .i64 0) ∧ w'.cell? ⟨w.heap.size, 2, none⟩ = some (.int .i64 0)) (by kernel_rfl) ?_ (fun hHeld => ?_)
  · exact ⟨t0, t1, t2⟩
  have hB5 := below_drewN HB4.out 1
  have hr5 := HR.out.below (below_drewN (Below.refl _ _) 1)
  change Below _ _ w4.drew at hB5
  change RackAt w4.drew _ _ _ at hr5
  change w4.drew.cell? _ = _ at t0
  change w4.drew.cell? _ = _ at t1
  change w4.drew.cell? _ = _ at t2
  have hgl5 : w.heap.size < w4.drew.heap.size := hgl4
  generalize hw : w4.drew = w5 at *
  clear hw hgl4 HR HB4
  refine wpAnyH_take (i := 0) (v := ?_) rfl (by kernel_rfl) (by kernel_rfl) (by kernel_rfl) (fun _ _ _ h => h) (Or.inl ⟨by rfl, fun w hSw => ?_⟩) (by assumption) ?_
  rotate_left
  · (try dsimp only at hSw); go_simp; try with_reducible rfl
  simp only [Act.put, List.setIfInBounds_toArray, List.set_cons_zero, List.set_cons_succ, List.getElem_toArray, List.getElem_cons_zero]
  refine wpAnyH_take (i := 2) (v := ?_) rfl (by kernel_rfl) (by kernel_rfl) (by kernel_rfl) (fun _ _ _ h => h) (Or.inl ⟨by rfl, fun w hSw => ?_⟩) (by assumption) ?_
  rotate_left
  · (try dsimp only at hSw); go_simp; try with_reducible rfl
  simp only [Act.put, List.setIfInBounds_toArray, List.set_cons_zero, List.set_cons_succ, List.getElem_toArray, List.getElem_cons_succ, List.getElem_cons_zero]
  refine wpAnyH_ready (rs := [1]) (by kernel_rfl) (by simp) ?_
  refine AllReadyH.cons rfl (fun K hK => ?_) AllReadyH.nil
  simp only [List.getElem_toArray, List.getElem_cons_succ, List.getElem_cons_zero]
  go_simp
  refine (small_any w5).mono ?_
  rintro e w6 ⟨rfl, hb6⟩
  have s0 := (hb6.cell (p := ⟨w.heap.size, 0, none⟩) hgl5).trans t0
  have s1 := (hb6.cell (p := ⟨w.heap.size, 1, none⟩) hgl5).trans t1
  have s2 := (hb6.cell (p := ⟨w.heap.size, 2, none⟩) hgl5).trans t2
  have HB6 := Lib.hid (hB5.trans (hb6.mono hB5.size))
  have HR6 := Lib.hid (hr5.below hb6)
  clear hB5 hr5
  go_wp2_with (fail)
  refine hK.out _ _ ⟨s0, s1, s2⟩ (fun hHeld => ?_)
  clear hK K t0 t1 t2 hgl5 hb6
  refine wpAnyH_ready (rs := [3]) (by kernel_rfl) (by simp) ?_
  refine AllReadyH.cons rfl (fun K hK => ?_) AllReadyH.nil
  simp only [List.getElem_toArray, List.getElem_cons_succ, List.getElem_cons_zero]
  go_simp
  refine (open_any 3 3 12 0 0 0 HR6.out).mono ?_
  rintro e w7 hop
  obtain ⟨b, rfl, hlt, hst⟩ := St.opened (w0 := w) HR6.out HLO.out HB6.out hop (by rw [openOk_small rfl rfl]; rfl)
  have HST := Lib.hid hst
  have t0 := (hop.1.cell (p := ⟨w.heap.size, 0, none⟩) (World.block_lt_of_cell? _ _ s0)).trans s0
  have t1 := (hop.1.cell (p := ⟨w.heap.size, 1, none⟩) (World.block_lt_of_cell? _ _ s1)).trans s1
  have t2 := (hop.1.cell (p := ⟨w.heap.size, 2, none⟩) (World.block_lt_of_cell? _ _ s2)).trans s2
  clear hst hop s0 s1 s2
  go_wp2_with (fail)
  refine hK.out _ _ ⟨t0, t1, t2⟩ (fun hHeld => ?_)
  clear hK K t0 t1 t2
  refine wpAnyH_take (i := 4) (v := ?_) rfl (by kernel_rfl) (by kernel_rfl) (by kernel_rfl) (fun _ _ _ h => h) (Or.inl ⟨by rfl, fun w hSw => ?_⟩) (by assumption) ?_
  rotate_left
  · (try dsimp only at hSw); go_simp; try with_reducible rfl
  simp only [Act.put, List.setIfInBounds_toArray, List.set_cons_zero, List.set_cons_succ, List.getElem_toArray, List.getElem_cons_succ, List.getElem_cons_zero]
  refine wpAnyH_take (i := 5) (v := ?_) rfl (by kernel_rfl) (by kernel_rfl) (by kernel_rfl) (fun _ _ _ h => h) (Or.inl ⟨by rfl, fun w hSw => ?_⟩) (by assumption) ?_
  rotate_left
  · (try dsimp only at hSw); go_simp; try with_reducible rfl
  simp only [Act.put, List.setIfInBounds_toArray, List.set_cons_zero, List.set_cons_succ, List.getElem_toArray, List.getElem_cons_succ, List.getElem_cons_zero]
  refine wpAnyH_take (i := 6) (v := ?_) rfl (by kernel_rfl) (by kernel_rfl) (by kernel_rfl) (fun _ _ _ h => h) (Or.inl ⟨by rfl, fun w hSw => ?_⟩) (by assumption) ?_
  rotate_left
  · (try dsimp only at hSw); go_simp; try with_reducible rfl
  simp only [Act.put, List.setIfInBounds_toArray, List.set_cons_zero, List.set_cons_succ, List.getElem_toArray, List.getElem_cons_succ, List.getElem_cons_zero]
  refine wpAnyH_take (i := 7) (v := ?_) rfl (by kernel_rfl) (by kernel_rfl) (by kernel_rfl) (fun _ _ _ h => h) (Or.inl ⟨by rfl, fun w hSw => ?_⟩) (by assumption) ?_
  rotate_left
  · (try dsimp only at hSw); go_simp; try with_reducible rfl
  simp only [Act.put, List.setIfInBounds_toArray, List.set_cons_zero, List.set_cons_succ, List.getElem_toArray, List.getElem_cons_succ, List.getElem_cons_zero]
  refine wpAnyH_take (i := 8) (v := ?_) rfl (by kernel_rfl) (by kernel_rfl) (by kernel_rfl) (fun _ _ _ h => h) (Or.inl ⟨by rfl, fun w hSw => ?_⟩) (by assumption) ?_
  rotate_left
  · (try dsimp only at hSw); go_simp; try with_reducible rfl
  simp only [Act.put, List.setIfInBounds_toArray, List.set_cons_zero, List.set_cons_succ, List.getElem_toArray, List.getElem_cons_succ, List.getElem_cons_zero]
  refine wpAnyH_done (by kernel_rfl) ?_ _
  go_wp2_with (fail)
  go_ret2
  exact ⟨L, b, rfl, HST.out⟩

end Go.Proofs.YtciddoeeiamndaaGreat

/-
  The laws' own helpers, by contract: fits, same.
-/
namespace Go.Proofs.YtciddoeeiamndaaGreat
open Go.RowKit Go.Maps
set_option linter.unusedVariables false

end Go.Proofs.YtciddoeeiamndaaGreat

/-
  The stripe's calls as a law makes them: a rack, its bank, one contract each.
-/
namespace Go.Proofs.YtciddoeeiamndaaGreat
open Go.RowKit Go.Maps
set_option linter.unusedVariables false

section
variable {w0 w w' : World} {M : Nat → Prop} {L : Lay} {b : Nat} {R : Rk} {B : Bn}
theorem wrR_n (B : Bn) (R : Rk) (n m : Nat) (g q : Int) (fb : Nat → BlP) (nb : Nat) : (wrR B R n m g q fb nb).n = R.n := by
  unfold wrR
  split
  · rfl
  · split
    · rfl
    · split
      · rfl
      · exact wrG_n ..
theorem st_write (hB : Sml B) (g q : Int) (ab : Option Addr) (nb c : Nat) (fb : Nat → BlP) (h : St w0 M L b R B w) (hbl : Bls w ab nb fb) (hnb : nb ≤ 9223372036854775807) :
    Calls Tryz.prog 17 #[.pointer (some ⟨b, 0, none⟩), .int .i64 g, .int .i64 q, .slice ab nb c] w (StPost w0 M L b (wrR B R 3 3 g q fb nb) B w (.int .i64 (wrE B R 3 3 g q fb nb))) :=
  (sWrite_any (n := 3) (m := 3) g q ab nb c fb h.rk h.bk h.nb hB.d (by omega) hB.r hbl hnb).mono fun _ _ => h.post (wrR_n ..)
theorem st_whole (hB : Sml B) (g : Int) (h : St w0 M L b R B w) :
    Calls Tryz.prog 22 #[.pointer (some ⟨b, 0, none⟩), .int .i64 g] w fun e w' => e = .returned (.tuple #[.int .i64 ((whR B R 3 3 g).getD 0), .bool (whR B R 3 3 g).isSome, .int .i64 (chkE R (segO B g))]) ∧ St w0 M L b R B w' ∧ Below w.heap.size w w' :=
  (sWhole_any (n := 3) (m := 3) g h.rk h.bk hB.d (by omega) hB.r).mono fun _ _ hh => ⟨hh.1, h.next hh.2, hh.2⟩
theorem st_sread (hB : Sml B) (g k q : Int) (h : St w0 M L b R B w) :
    Calls Tryz.prog 24 #[.pointer (some ⟨b, 0, none⟩), .int .i64 g, .int .i64 k, .int .i64 q] w fun e w' => ∃ a n c, e = .returned (.tuple #[blV (decN (rbL B R 3 g k q) 4 2) (decN (rbL B R 3 g k q) 6 2) a n c, .int .i64 (rbE B R 3 g k q)]) ∧ Pin w' a n c (decL (rbL B R 3 g k q)) ∧ St w0 M L b R B w' ∧ Below w.heap.size w w' :=
  (sRead_any (n := 3) g k q h.rk h.bk hB.d (by omega)).mono fun _ _ hh => by
    obtain ⟨a, n, c, e, hp, hb⟩ := hh
    exact ⟨a, n, c, e, hp, h.next hb, hb⟩
theorem st_miss (hB : Sml B) (g i q : Int) (h : St w0 M L b R B w) :
    Calls Tryz.prog 34 #[.pointer (some ⟨b, 0, none⟩), .int .i64 g, .int .i64 i, .int .i64 q] w fun e w' => e = .returned (.tuple #[.bool (misV B R 3 g q i), .int .i64 (chkE R (thO B g i))]) ∧ St w0 M L b R B w' ∧ Below w.heap.size w w' :=
  (sMissing_any (n := 3) (m := 3) g i q h.rk h.bk hB.d hB.r).mono fun _ _ hh => ⟨hh.1, h.next hh.2, hh.2⟩
theorem st_sound (hB : Sml B) (g q : Int) (h : St w0 M L b R B w) :
    Calls Tryz.prog 38 #[.pointer (some ⟨b, 0, none⟩), .int .i64 g, .int .i64 q] w fun e w' => e = .returned (.tuple #[.bool (sndV B R 3 3 g q), .int .i64 (chkE R (segO B g))]) ∧ St w0 M L b R B w' ∧ Below w.heap.size w w' :=
  (sSound_any (n := 3) (m := 3) g q h.rk h.bk hB.d hB.r).mono fun _ _ hh => ⟨hh.1, h.next hh.2, hh.2⟩
theorem rfR_n (B : Bn) (R : Rk) (n m : Nat) (g q i : Int) : (rfR B R n m g q i).n = R.n := by
  unfold rfR
  split
  · exact rfG_n ..
  · rfl
theorem st_refill (hB : Sml B) (g i q : Int) (h : St w0 M L b R B w) :
    Calls Tryz.prog 36 #[.pointer (some ⟨b, 0, none⟩), .int .i64 g, .int .i64 i, .int .i64 q] w (StPost w0 M L b (rfR B R 3 3 g q i) B w (.int .i64 (rfE B R 3 3 g q i))) :=
  (sRefill_any (n := 3) (m := 3) g i q h.rk h.bk h.nb hB.d (by omega) hB.r).mono fun _ _ => h.post (rfR_n ..)
end
theorem sml0 : Sml B0 := ⟨rfl, rfl, rfl⟩
section
variable {R : Rk} {bad D : Nat → Bool} {C : Nat → Nat → List Int}
theorem Vd.vw0 (h : Vd R 4 41 bad D C) : Vw B0 R bad bad C := (h.vw rfl rfl rfl).congr (fun i _ => by rw [Bn.dk0 rfl]) (fun i _ => by rw [Bn.dk0 rfl]; simp) (fun i k _ _ _ => by rw [Bn.dk0 rfl])
theorem Vd.start : Vd (newRk 4 41) 4 41 noD noD (fun _ _ => List.replicate 64 0) := (Hd.start 4 41).vd
theorem Vd.flush0 (h : Vd R 4 41 bad D C) : (flG B0 R B0.num).2.1 = 0 ∧ Vd (flG B0 R B0.num).2.2 4 41 (orD bad D) noD C := by
  obtain ⟨_, h2, h3⟩ := h.flush (B := B0) (m := 3) rfl rfl B0.num (Nat.le_refl _)
  refine ⟨h2, ?_⟩
  rcases h3 with ⟨x, _⟩ | ⟨_, x⟩
  · have : B0.num = 4 := rfl
    omega
  · exact x
/-- A block that is read is the one that was written. -/
theorem blk_read {k : Nat} {q : Int} {fb : Nat → BlP} {nb : Nat} {z : List Int} (he : encB q fb nb 6 = true) (hk : k < 6) (hz : z = enS q fb nb k) : decN z 4 2 = (blkAt fb nb k).o ∧ decN z 6 2 = (blkAt fb nb k).i ∧ decL z = padL (blkAt fb nb k).p.zs 56 ∧ (decL z).length = 56 := by
  have ok := enS_ok he hk
  have e : z = encL q (blkAt fb nb k).o (blkAt fb nb k).i (blkAt fb nb k).p.zs := hz
  rw [e]
  exact ⟨ok.d1, ok.d2, ok.dl, by rw [ok.dl]; exact padL_len ok.fit⟩
end

/-- At most one disk is bad. -/
def One (bad : Nat → Bool) (f : Nat) : Prop := ∀ s, s < 3 → bad s = true → s = f
theorem One.or {bad : Nat → Bool} {f x : Nat} (h : One bad f) (hx : x < 3) : (∀ s, s < 3 → s ≠ x → bad s = false) ∨ bad x = false := by
  cases hb : bad x with
  | false => exact .inr rfl
  | true =>
    refine .inl fun s hs hne => ?_
    cases hc : bad s with
    | false => rfl
    | true => exact absurd ((h s hs hc).trans (h x hx hb).symm) hne
theorem One.cnt {bad : Nat → Bool} {f : Nat} (h : One bad f) : cntB bad ≤ 1 := by
  have h01 : ¬ (bad 0 = true ∧ bad 1 = true) := fun x => by have := h 0 (by omega) x.1; have := h 1 (by omega) x.2; omega
  have h02 : ¬ (bad 0 = true ∧ bad 2 = true) := fun x => by have := h 0 (by omega) x.1; have := h 2 (by omega) x.2; omega
  have h12 : ¬ (bad 1 = true ∧ bad 2 = true) := fun x => by have := h 1 (by omega) x.1; have := h 2 (by omega) x.2; omega
  unfold cntB
  cases h0 : bad 0 <;> cases h1 : bad 1 <;> cases h2 : bad 2 <;> simp_all
theorem one_doom (f : Nat) : One (orD noD fun j => noD j || j == f) f := fun s _ h => by simpa [orD] using h

end Go.Proofs.YtciddoeeiamndaaGreat

/-
  The laws' 'alive', by contract.
-/
namespace Go.Proofs.YtciddoeeiamndaaGreat
open Go.RowKit Go.Maps
set_option linter.unusedVariables false

/-- The blocks that 'alive' writes. -/
def fA (g : Nat) : Nat → BlP := fun j => if j = 0 then ⟨1, 0, ⟨some ⟨g, 0, none⟩, 1, 1, [5]⟩⟩ else ⟨2, 3, ⟨some ⟨g + 1, 0, none⟩, 1, 1, [6]⟩⟩
theorem pin_one {w : World} {g : Nat} {z : Int} (h0 : 0 ≤ z) (h1 : z ≤ 255) (hl : g < w.heap.size) (hc : w.cell? ⟨g, 0, none⟩ = some (.int .u8 z)) : Pin w (some ⟨g, 0, none⟩) 1 1 [z] := by
  refine ⟨⟨rfl, fun x hx => by rw [List.mem_singleton.1 hx]; exact ⟨h0, h1⟩, .inr ⟨g, 0, rfl, hl, fun i hi => ?_⟩⟩, fun h => (by cases h), Nat.le_refl _, by omega⟩
  obtain rfl : i = 0 := by omega
  exact hc
theorem fA_bls {w W : World} (h : W = ((w.alloc (.cells #[.int .u8 5] 5)).alloc (.cells #[.int .u8 6] 5)).alloc (.cells #[.int .i64 1, .int .i64 0, .slice (some ⟨w.heap.size, 0, none⟩) 1 1, .int .i64 2, .int .i64 3, .slice (some ⟨w.heap.size + 1, 0, none⟩) 1 1] 65)) :
    Bls W (some ⟨w.heap.size + 1 + 1, 0, none⟩) 2 (fA w.heap.size) ∧ Below w.heap.size w W := by
  obtain ⟨w2, h2⟩ : ∃ w2, w2 = (w.alloc (.cells #[.int .u8 5] 5)).alloc (.cells #[.int .u8 6] 5) := ⟨_, rfl⟩
  have s2 : w2.heap.size = w.heap.size + 1 + 1 := by rw [h2]; simp
  have hb2 : Below w.heap.size w w2 := by rw [h2]; exact ((Below.refl _ _).alloc (Nat.le_refl _) _).alloc (by simp) _
  have c5 : w2.cell? ⟨w.heap.size, 0, none⟩ = some (.int .u8 5) := by rw [h2]; simp
  have c6 : w2.cell? ⟨w.heap.size + 1, 0, none⟩ = some (.int .u8 6) := by
    rw [h2, show w.heap.size + 1 = (w.alloc (.cells #[.int .u8 5] 5)).heap.size by simp]
    simp
  rw [← h2] at h
  clear h2
  have hb : Below w2.heap.size w2 W := by rw [h]; exact (Below.refl _ _).alloc (Nat.le_refl _) _
  have d5 := (hb.cell (p := ⟨w.heap.size, 0, none⟩) (by show w.heap.size < _; omega)).trans c5
  have d6 := (hb.cell (p := ⟨w.heap.size + 1, 0, none⟩) (by show w.heap.size + 1 < _; omega)).trans c6
  have hl : w2.heap.size < W.heap.size := by rw [h]; simp
  rw [← s2]
  refine ⟨⟨.inr ⟨w2.heap.size, 0, rfl, hl, fun j hj => ?_⟩, fun j hj => ?_⟩, hb2.trans (hb.mono hb2.size)⟩
  · rcases (by omega : j = 0 ∨ j = 1) with rfl | rfl
    · rw [h]; refine ⟨?_, ?_, ?_⟩ <;> simp [fA]
    · rw [h]; refine ⟨?_, ?_, ?_⟩ <;> simp [fA]
  · rcases (by omega : j = 0 ∨ j = 1) with rfl | rfl
    · exact pin_one (by omega) (by omega) (by omega) d5
    · exact pin_one (by omega) (by omega) (by omega) d6
theorem fA_enc (g : Nat) : encB 7 (fA g) 2 6 = true := by
  show (decide (2 ≤ 6) && ((((((true && _) && _) && _) && _) && _) && _) : Bool) = true
  rfl
theorem fA_small (g : Nat) : ∀ j, j < 2 → AllB (fA g j).p.zs := fun j hj => by
  unfold fA
  split
  · intro x hx; rw [List.mem_singleton.1 hx]; omega
  · intro x hx; rw [List.mem_singleton.1 hx]; omega

set_option maxRecDepth 100000 in
set_option maxHeartbeats 1000000 in
theorem alive_any (w : World) : Calls Tryz.prog 5 #[] w fun e w' => e = .returned (.bool true) ∧ Below w.heap.size w w' := by
  go_enter Tryz.func5, Tryz.ntmps5
  go_wp2_with (fail)
  refine (open_small w).mono ?_
  rintro e w1 ⟨L, b, rfl, hst⟩
  have HST := Lib.hid hst
  clear hst
  go_wp2_with (fail)
  obtain ⟨W, hW⟩ : ∃ W, W = ((w1.alloc (.cells #[.int .u8 5] 5)).alloc (.cells #[.int .u8 6] 5)).alloc (.cells #[.int .i64 1, .int .i64 0, .slice (some ⟨w1.heap.size, 0, none⟩) 1 1, .int .i64 2, .int .i64 3, .slice (some ⟨w1.heap.size + 1, 0, none⟩) 1 1] 65) := ⟨_, rfl⟩
  obtain ⟨hbl, hbw⟩ := fA_bls hW
  rw [← hW]
  clear hW
  obtain ⟨fb, hfb⟩ : ∃ fb, fb = fA w1.heap.size := ⟨_, rfl⟩
  have he := fA_enc w1.heap.size
  have hsm := fA_small w1.heap.size
  have k0 : blkAt fb 2 0 = fA w1.heap.size 0 := by rw [hfb]; rfl
  have k1 : blkAt fb 2 1 = fA w1.heap.size 1 := by rw [hfb]; rfl
  rw [← hfb] at hbl he hsm
  have hwr := st_write sml0 2 7 _ 2 2 fb (HST.out.next hbw) hbl (by omega)
  obtain ⟨e1, v1⟩ := Vd.start.write sml0 rfl (by decide) (g := 2) (by omega) (by omega) (by omega) he hsm
  have e1' : wrE B0 (newRk 4 41) 3 3 2 7 fb 2 = 0 := e1
  rw [e1'] at hwr
  obtain ⟨R1, hR1⟩ : ∃ R1, R1 = wrR B0 (newRk 4 41) 3 3 2 7 fb 2 := ⟨_, rfl⟩
  have v1' : Vd R1 4 41 noD noD (wrS (fun _ _ => List.replicate 64 0) 2 7 fb 2 3) := by rw [hR1]; exact v1
  rw [← hR1] at hwr
  obtain ⟨C, hC⟩ : ∃ C, C = wrS (fun _ _ => List.replicate 64 0) 2 7 fb 2 3 := ⟨_, rfl⟩
  have HW : Hid (Whl C 2 7) := by rw [hC]; exact wrS_whl he hsm
  have HC0 : Hid (C (slt (3 * 2 + 0 / 2) (0 % 2)) (5 + (3 * 2 + 0 / 2)) = enS 7 fb 2 0) := by rw [hC]; exact wrS_blk (by omega)
  have HC1 : Hid (C (slt (3 * 2 + 1 / 2) (1 % 2)) (5 + (3 * 2 + 1 / 2)) = enS 7 fb 2 1) := by rw [hC]; exact wrS_blk (by omega)
  rw [← hC] at v1'
  have HV1 := Lib.hid v1'
  have HE := Lib.hid he
  have HK0 := Lib.hid k0
  have HK1 := Lib.hid k1
  clear hC hR1 v1 v1' e1 e1' he hsm k0 k1 hfb hbl hbw HST
  refine hwr.mono ?_
  rintro e w2 ⟨rfl, hst2, _⟩
  have hdm := st_doom 0 0 hst2 (by omega)
  obtain ⟨d1, d2⟩ := HV1.out.doom (i := 0) (by omega)
  have d1' : R1.dkE 0 = 0 := d1
  rw [d1'] at hdm
  obtain ⟨R2, hR2⟩ : ∃ R2, R2 = R1.doom 0 0 := ⟨_, rfl⟩
  have d2' : Vd R2 4 41 noD (fun j => noD j || j == 0) C := by rw [hR2]; exact d2
  rw [← hR2] at hdm
  have HV2 := Lib.hid d2'
  clear hwr hst2 d1 d2 d1' d2' hR2 HV1
  go_wp2_with (fail)
  refine hdm.mono ?_
  rintro e w3 ⟨rfl, hst3, _⟩
  have hfl := st_flush (n := 3) hst3 rfl (by omega)
  obtain ⟨f1, f2⟩ := HV2.out.flush0
  rw [f1] at hfl
  obtain ⟨R3, hR3⟩ : ∃ R3, R3 = (flG B0 R2 B0.num).2.2 := ⟨_, rfl⟩
  rw [← hR3] at hfl f2
  obtain ⟨bad, hbad⟩ : ∃ bad, bad = orD noD (fun j => noD j || j == 0) := ⟨_, rfl⟩
  have hone : One bad 0 := by rw [hbad]; exact one_doom 0
  rw [← hbad] at f2
  have hvw := f2.vw0
  clear hdm hst3 f1 f2 hR3 HV2 hbad
  have hwh := hvw.whole (g := 2) (by omega) HW.out (by omega) (fun _ _ x => x) hone.cnt
  have hck := hvw.chk (hvw.seg (g := 2) (by omega))
  obtain ⟨r0, r1⟩ := hvw.read (g := 2) (k := 0) (by omega) HW.out (by omega) (hone.or (slt_lt _ _))
  obtain ⟨s0, s1⟩ := hvw.read (g := 2) (k := 1) (by omega) HW.out (by omega) (hone.or (slt_lt _ _))
  obtain ⟨p0, p1, p2, p3⟩ := blk_read HE.out (show 0 < 6 by omega) (r1.trans HC0.out)
  obtain ⟨q0, q1, q2, q3⟩ := blk_read HE.out (show 1 < 6 by omega) (s1.trans HC1.out)
  rw [HK0.out] at p0 p1 p2
  rw [HK1.out] at q0 q1 q2
  change decN (rbL B0 R3 3 2 0 7) 4 2 = 1 at p0
  change decN (rbL B0 R3 3 2 0 7) 6 2 = 0 at p1
  change decL (rbL B0 R3 3 2 0 7) = padL [5] 56 at p2
  change decN (rbL B0 R3 3 2 1 7) 4 2 = 2 at q0
  change decN (rbL B0 R3 3 2 1 7) 6 2 = 3 at q1
  change decL (rbL B0 R3 3 2 1 7) = padL [6] 56 at q2
  change rbE B0 R3 3 2 0 7 = 0 at r0
  change rbE B0 R3 3 2 1 7 = 0 at s0
  change whR B0 R3 3 3 2 = some 7 at hwh
  have HP : Hid ((((decN (rbL B0 R3 3 2 0 7) 4 2 = 1 ∧ decN (rbL B0 R3 3 2 0 7) 6 2 = 0) ∧ decL (rbL B0 R3 3 2 0 7) = padL [5] 56) ∧ rbE B0 R3 3 2 0 7 = 0)) := ⟨⟨⟨p0, p1⟩, p2⟩, r0⟩
  have HQ : Hid ((((decN (rbL B0 R3 3 2 1 7) 4 2 = 2 ∧ decN (rbL B0 R3 3 2 1 7) 6 2 = 3) ∧ decL (rbL B0 R3 3 2 1 7) = padL [6] 56) ∧ rbE B0 R3 3 2 1 7 = 0)) := ⟨⟨⟨q0, q1⟩, q2⟩, s0⟩
  have HWH : Hid (whR B0 R3 3 3 2 = some 7 ∧ chkE R3 (segO B0 2) = 0) := ⟨hwh, hck⟩
  clear p0 p1 p2 p3 q0 q1 q2 q3 r0 r1 s0 s1 hwh hck hvw HW HC0 HC1 HE HK0 HK1 hone
  go_wp2_with (fail)
  refine hfl.mono ?_
  rintro e w4 ⟨rfl, hst4, _⟩
  have hw := st_whole sml0 2 hst4
  rw [HWH.out.1, HWH.out.2] at hw
  clear hfl hst4 HWH
  go_wp2_with (fail)
  refine hw.mono ?_
  rintro e w5 ⟨rfl, hst5, _⟩
  have hr := st_sread sml0 2 1 7 hst5
  rw [HQ.out.1.1.1, HQ.out.1.1.2, HQ.out.1.2, HQ.out.2] at hr
  clear hw hst5 HQ
  go_wp2_with (fail)
  refine hr.mono ?_
  rintro e w6 ⟨a6, n6, c6, rfl, hp6, hst6, _⟩
  obtain rfl : n6 = 56 := hp6.len.symm
  obtain ⟨b6, o6, rfl, hl6, y6⟩ := hp6.cell0 (by omega)
  have y6' : w6.cell? ⟨b6, o6, none⟩ = some (.int .u8 6) := y6
  clear hr hp6 y6
  obtain ⟨V6, hV6⟩ : ∃ V, V = w6.alloc (.cells #[.int .i64 2, .int .i64 3, .slice (some ⟨b6, o6, none⟩) 56 c6] 65) := ⟨_, rfl⟩
  have hb7 : Below w6.heap.size w6 V6 := by rw [hV6]; exact (Below.refl _ _).alloc (Nat.le_refl _) _
  have hst7 := hst6.next hb7
  have z6 := (hb7.cell (p := ⟨b6, o6, none⟩) hl6).trans y6'
  have x0 : V6.cell? ⟨w6.heap.size, 0, none⟩ = some (.int .i64 2) := by rw [hV6]; simp
  have x1 : V6.cell? ⟨w6.heap.size, 1, none⟩ = some (.int .i64 3) := by rw [hV6]; simp
  have x2 : V6.cell? ⟨w6.heap.size, 2, none⟩ = some (.slice (some ⟨b6, o6, none⟩) 56 c6) := by rw [hV6]; simp
  have hr := st_sread sml0 2 0 7 hst7
  rw [HP.out.1.1.1, HP.out.1.1.2, HP.out.1.2, HP.out.2] at hr
  go_wp2_with (fail)
  rw [← hV6]
  clear hV6 hst6 hst7 y6' hb7 HP
  refine hr.mono ?_
  rintro e w8 ⟨a8, n8, c8, rfl, hp8, hst8, hb8⟩
  obtain rfl : n8 = 56 := hp8.len.symm
  obtain ⟨b8, o8, rfl, hl8, y8⟩ := hp8.cell0 (by omega)
  have y8' : w8.cell? ⟨b8, o8, none⟩ = some (.int .u8 5) := y8
  have t6 := (hb8.cell (p := ⟨b6, o6, none⟩) (World.block_lt_of_cell? _ _ z6)).trans z6
  have t0 := (hb8.cell (p := ⟨w6.heap.size, 0, none⟩) (World.block_lt_of_cell? _ _ x0)).trans x0
  have t1 := (hb8.cell (p := ⟨w6.heap.size, 1, none⟩) (World.block_lt_of_cell? _ _ x1)).trans x1
  have t2 := (hb8.cell (p := ⟨w6.heap.size, 2, none⟩) (World.block_lt_of_cell? _ _ x2)).trans x2
  have HB := Lib.hid hst8.bel
  have l6 : w6.heap.size < w8.heap.size := World.block_lt_of_cell? _ _ t0
  have l6b : b6 < w8.heap.size := World.block_lt_of_cell? _ _ t6
  clear hr hp8 y8 x0 x1 x2 z6 hst8 hb8
  go_wp2_with (fail)
  go_ret
  exact ⟨rfl, HB.out.alloc HB.out.size _⟩

end Go.Proofs.YtciddoeeiamndaaGreat
