/-
  The law's 'great'.
-/
import Derived.Test.YtciddoeeiamndaaGreatQa
import Derived.Test.YtciddoeeiamndaaGreatRkd
import Derived.Test.YtciddoeeiamndaaGreatSg
namespace Go.Proofs.YtciddoeeiamndaaGreat
open Go.RowKit Go.Maps
set_option linter.unusedVariables false

def GrPost (w : World) (len : Nat) (f : Nat → Cs) (e : Ending) (w' : World) : Prop := ∃ G : Bool, e = .returned (.bool G) ∧ Below w.heap.size w w' ∧ (G = false → len ≤ 60 ∧ ∀ i, i < len → (f i).nd ≤ 20000 ∧ (f i).nb ≤ 20000)
set_option maxRecDepth 100000 in
set_option maxHeartbeats 4000000 in
theorem great_any (a : Option Addr) (len cap : Nat) (f : Nat → Cs) (w : World) (hc : CssAt w a len f) (hl : len ≤ maxLen) :
    Calls Tryz.prog 6 #[.slice a len cap] w (GrPost w len f) := by
  unfold maxLen at hl
  by_cases h60 : 60 < len
  · have h1 : (60 : Int) < (len : Int) := by omega
    clear hc
    go_enter Tryz.func6, Tryz.ntmps6
    go_wp2_with (fail)
    go_ret
    exact ⟨true, rfl, Below.refl _ _, fun h => by cases h⟩
  have h1 : decide ((60 : Int) < (len : Int)) = false := decide_eq_false (by omega)
  have h1' : decide (60 < len) = false := decide_eq_false h60
  have H60 : Hid (len ≤ 60) := by show _ ≤ _; omega
  have HCS := Lib.hid hc
  clear hc h60
  go_enter Tryz.func6, Tryz.ntmps6
  go_wp2_with (fail)
  clear h1 h1'
  go_loopw [3, 4, 5] (fun u v _p wr => ∃ m i : Nat, i ≤ len ∧ m ≤ 20000 ∧ u = .int .i64 m ∧ v = .int .i64 i ∧ (∀ j, j < i → (f j).nd ≤ 20000 ∧ (f j).nb ≤ 20000) ∧ Below w.heap.size w wr) (fun _ v _ _ => len - (RowKit.intOf v).toNat)
  case atStart => exact ⟨0, 0, by omega, by omega, rfl, rfl, (fun j hj => absurd hj (Nat.not_lt_zero _)), Below.refl _ _⟩
  case round =>
    obtain ⟨m, i, i1, m1, rfl, rfl, hj, hb⟩ := hrel
    have HJ := Lib.hid hj
    have HB := Lib.hid hb
    clear hj hb
    by_cases hlt : i < len
    · rcases HCS.out with h0 | ⟨b, off, rfl, hlb, hcall⟩
      · omega
      have hci := (hcall i hlt).next hlb HB.out
      have k4 := hci.k4
      have k5 := hci.k5
      have b4 := hci.bn
      have b5 := hci.few
      have bp := hci.bp
      have hbl := hci.bl
      unfold reachBytes at b4 b5 bp
      obtain ⟨x, hx⟩ : ∃ x, x = (f i).nd := ⟨_, rfl⟩
      obtain ⟨z, hz⟩ : ∃ z, z = (f i).nb := ⟨_, rfl⟩
      obtain ⟨ab, hab⟩ : ∃ z, z = (f i).ab := ⟨_, rfl⟩
      obtain ⟨cb, hcb⟩ : ∃ z, z = (f i).cb := ⟨_, rfl⟩
      obtain ⟨fb, hfb⟩ : ∃ z, z = (f i).fb := ⟨_, rfl⟩
      rw [← hz, ← hab, ← hcb] at k4
      rw [← hz, ← hab, ← hfb] at hbl
      rw [← hz, ← hfb] at bp
      rw [← hx] at k5 b5
      rw [← hz] at b4
      have HXX := Lib.hid hx
      have HZZ := Lib.hid hz
      have HBP := Lib.hid bp
      have HBL := Lib.hid hbl
      have i0 : (0 : Int) ≤ (i : Int) := by omega
      have i2 : (i : Int) < (len : Int) := by omega
      obtain ⟨X, hX⟩ : ∃ X : Nat, X = x + z := ⟨_, rfl⟩
      obtain ⟨N, hN⟩ : ∃ N : Nat, N = m + X := ⟨_, rfl⟩
      have e1 : IntKind.i64.wrap ((x : Int) + (z : Int)) = (X : Int) := by rw [IntWalk.i64_in _ (by omega)]; omega
      have e2 : IntKind.i64.wrap ((m : Int) + (X : Int)) = (N : Int) := by rw [IntWalk.i64_in _ (by omega)]; omega
      have HNN : Hid (N = m + (x + z) ∧ N ≤ 281474976800000) := by show _ ∧ _; omega
      have HK4 : Hid (∀ w', Below wr.heap.size wr w' → w'.cell? ⟨b, off + i * 9 + 4, none⟩ = some (.slice ab z cb)) := fun w' h' => (h'.cell (p := ⟨b, off + i * 9 + 4, none⟩) (Nat.lt_of_lt_of_le hlb HB.out.size)).trans k4
      have hzb : z ≤ 140737488355328 := by omega
      clear hcall hci bp hx hz hab hcb hfb hX hN hbl b4 b5
      go_wp2_with (fail)
      go_quiet (fail)
      have hbq : Below wr.heap.size wr (wr.drewN nq) := below_drewN (Below.refl _ wr) nq
      obtain ⟨wo, hwo⟩ : ∃ wo, wo = wr.drewN nq := ⟨_, rfl⟩
      rw [← hwo] at hbq ⊢
      have HBQ := Lib.hid hbq
      clear hwo hbq k4 k5 e1 e2
      go_wp2_with (fail)
      obtain ⟨wq, hwq⟩ : ∃ wq, wq = wr := ⟨_, rfl⟩
      subst hwq
      have hit : decide ((i : Int) < (len : Int)) = true := decide_eq_true i2
      go_loopw [3, 5] (fun u v wr => ∃ n k : Nat, N ≤ n ∧ n ≤ 422212465000000 ∧ k ≤ z ∧ u = .int .i64 n ∧ v = .int .i64 k ∧ Below wo.heap.size wo wr) (fun _ v _ => z - (RowKit.intOf v).toNat)
      case atStart => exact ⟨N, 0, by omega, by have := HNN.out.2; omega, by omega, rfl, rfl, Below.refl _ _⟩
      case round =>
        obtain ⟨n, k, n1, n2, k1, rfl, rfl, hbw⟩ := hrel
        have hbw2 := HBQ.out.trans (hbw.mono HBQ.out.size)
        have k4 := HK4.out wr hbw2
        have HBW := Lib.hid hbw
        have HBW2 := Lib.hid hbw2
        clear hbw hbw2
        by_cases hk : k < z
        · by_cases hn : n ≤ 20000
          · obtain ⟨bb, boff, rfl, hbb, hcl⟩ := (HBL.out.next HBW2.out).place.resolve_left (by omega)
            obtain ⟨_, _, j2⟩ := hcl k hk
            have hp := HBP.out k hk
            obtain ⟨y, hy⟩ : ∃ y, y = (fb k).p.n := ⟨_, rfl⟩
            rw [← hy] at j2 hp
            have e3 : IntKind.i64.wrap ((n : Int) + (y : Int)) = (n : Int) + (y : Int) := IntWalk.i64_in _ (by omega)
            have hkI : (k : Int) < (z : Int) := by omega
            have hk0 : (0 : Int) ≤ (k : Int) := by omega
            have hnI : (n : Int) ≤ 20000 := by omega
            have hnD : decide ((n : Int) ≤ 20000) = true := decide_eq_true hnI
            clear hcl hy
            go_wp2_with (fail)
            go_roundw
            case rel => exact ⟨n + y, k + 1, by omega, by omega, by omega, by go_num, by go_num, HBW.out⟩
            case measure => simp [RowKit.intOf]; omega
          · have hkI : (k : Int) < (z : Int) := by omega
            have hnI : decide ((n : Int) ≤ 20000) = false := decide_eq_false (by omega)
            have hgt : (20000 : Int) < (n : Int) := by omega
            go_wp2_with (fail)
            go_ret
            exact ⟨true, rfl, HB.out.trans (HBW2.out.mono HB.out.size), fun h => by cases h⟩
        · have hkI : decide ((k : Int) < (z : Int)) = false := decide_eq_false (by omega)
          have hkN : decide (k < z) = false := decide_eq_false hk
          by_cases hn : n ≤ 20000
          · have hgt : decide ((20000 : Int) < (n : Int)) = false := decide_eq_false (by omega)
            have hgt' : decide (20000 < n) = false := decide_eq_false (by omega)
            clear hk
            go_wp2_with (fail)
            go_roundw
            case rel =>
              refine ⟨n, i + 1, by omega, by omega, by go_num, by go_num, fun j hj => ?_, HB.out.trans (HBW2.out.mono HB.out.size)⟩
              by_cases ej : j = i
              · subst ej
                have := HNN.out.1
                rw [← HXX.out, ← HZZ.out]
                omega
              · exact HJ.out j (by omega)
            case measure => simp [RowKit.intOf]; omega
          · have hgt : (20000 : Int) < (n : Int) := by omega
            clear hk
            go_wp2_with (fail)
            go_ret
            exact ⟨true, rfl, HB.out.trans (HBW2.out.mono HB.out.size), fun h => by cases h⟩
    · obtain rfl : i = len := by omega
      clear hlt
      go_wp2_with (fail)
      go_ret
      exact ⟨false, rfl, HB.out, fun _ => ⟨H60.out, HJ.out⟩⟩

end Go.Proofs.YtciddoeeiamndaaGreat

/-
  The law's Open, whatever the member; both banks, made one behind the other.
-/
namespace Go.Proofs.YtciddoeeiamndaaGreat
open Go.RowKit Go.Maps
set_option linter.unusedVariables false

def OpP (w : World) (e0 sl st : Int) (e : Ending) (w' : World) : Prop :=
  if memOk 3 sl st then ∃ L b, e = .returned (.tuple #[.pointer (some ⟨b, 0, none⟩), .pointer (some ⟨L.p, 0, none⟩)]) ∧ St w (also (L.M 4) (· = b)) L b (newRk 4 41) ⟨3, 3, 12, e0, sl, st⟩ w'
  else e = .returned (.tuple #[.pointer none, .pointer none]) ∧ Below w.heap.size w w'
set_option maxRecDepth 100000 in
set_option maxHeartbeats 1000000 in
theorem open_memb (e0 sl st : Int) (w : World) : Calls Tryz.prog 7 #[mb e0 sl st] w (OpP w e0 sl st) := by
  obtain ⟨W1, hW1⟩ : ∃ W1, W1 = w.alloc (.cells #[.int .i64 e0, .int .i64 sl, .int .i64 st] 23 (0, 0)) := ⟨_, rfl⟩
  have hB1 : Below w.heap.size w W1 := by rw [hW1]; exact (Below.refl _ _).alloc (Nat.le_refl _) _
  have s0 : W1.cell? ⟨w.heap.size, 0, none⟩ = some (.int .i64 e0) := by rw [hW1]; simp
  have s1 : W1.cell? ⟨w.heap.size, 1, none⟩ = some (.int .i64 sl) := by rw [hW1]; simp
  have s2 : W1.cell? ⟨w.heap.size, 2, none⟩ = some (.int .i64 st) := by rw [hW1]; simp
  have hgl : w.heap.size < W1.heap.size := by rw [hW1]; simp
  go_enter Tryz.func7, Tryz.ntmps7
  go_wp2_with (fail)
  rw [← hW1]
  clear hW1
  refine (small_any W1).mono ?_
  rintro e w2 ⟨rfl, hb2⟩
  have hB2 := hB1.trans (hb2.mono hB1.size)
  have t0 := (hb2.cell (p := ⟨w.heap.size, 0, none⟩) hgl).trans s0
  have t1 := (hb2.cell (p := ⟨w.heap.size, 1, none⟩) hgl).trans s1
  have t2 := (hb2.cell (p := ⟨w.heap.size, 2, none⟩) hgl).trans s2
  have hgl2 := Nat.lt_of_lt_of_le hgl hb2.size
  clear s0 s1 s2 hgl hb2 hB1
  go_wp2_with (fail)
  refine (sectors_all 3 3 12 w2).mono ?_
  rintro e w3 ⟨rfl, hb3⟩
  rw [sect_small]
  have hB3 := hB2.trans (hb3.mono hB2.size)
  have s0 := (hb3.cell (p := ⟨w.heap.size, 0, none⟩) hgl2).trans t0
  have s1 := (hb3.cell (p := ⟨w.heap.size, 1, none⟩) hgl2).trans t1
  have s2 := (hb3.cell (p := ⟨w.heap.size, 2, none⟩) hgl2).trans t2
  have hgl3 := Nat.lt_of_lt_of_le hgl2 hb3.size
  clear t0 t1 t2 hgl2 hb3 hB2
  go_wp2_with (fail)
  refine (new_ok 4 41 w3 (by omega) (by omega) (by omega) (by omega)).mono ?_
  rintro e w4 ⟨L, rfl, hr4, hM0, hb4⟩
  have hB4 := hB3.trans (hb4.mono hB3.size)
  have t0 := (hb4.cell (p := ⟨w.heap.size, 0, none⟩) hgl3).trans s0
  have t1 := (hb4.cell (p := ⟨w.heap.size, 1, none⟩) hgl3).trans s1
  have t2 := (hb4.cell (p := ⟨w.heap.size, 2, none⟩) hgl3).trans s2
  have hgl4 := Nat.lt_of_lt_of_le hgl3 hb4.size
  have HLO : Hid (∀ k, L.M 4 k → w.heap.size ≤ k) := fun k hk => Nat.le_trans hB3.size (hM0 k hk)
  have HR := Lib.hid hr4
  have HB4 := Lib.hid hB4
  clear s0 s1 s2 hgl3 hb4 hB3 hB4 hM0 hr4
  go_wp2_with (fail)
  refine wp_region_held_drew (S := fun w' => w'.cell? ⟨w.heap.size, 0, none⟩ = some (.int .i64 e0) ∧ w'.cell? ⟨w.heap.size, 1, none⟩ = some (.int .i64 sl) ∧ w'.cell? ⟨w.heap.size, 2, none⟩ = some (.int .i64 st)) (by kernel_rfl) ?_ (fun hHeld => ?_)
  · exact ⟨t0, t1, t2⟩
  have hB5 := below_drewN HB4.out 1
  have hr5 := HR.out.below (below_drewN (Below.refl _ _) 1)
  change Below _ _ w4.drew at hB5
  change RackAt w4.drew _ _ _ at hr5
  change w4.drew.cell? _ = _ at t0
  change w4.drew.cell? _ = _ at t1
  change w4.drew.cell? _ = _ at t2
  have hgl5 : w.heap.size < w4.drew.heap.size := hgl4
  generalize hw : w4.drew = w5 at *
  clear hw hgl4 HR HB4
  refine wpAnyH_take (i := 0) (v := ?_) rfl (by kernel_rfl) (by kernel_rfl) (by kernel_rfl) (fun _ _ _ h => h) (Or.inl ⟨by rfl, fun w hSw => ?_⟩) (by assumption) ?_
  rotate_left
  · (try dsimp only at hSw); go_simp; try with_reducible rfl
  simp only [Act.put, List.setIfInBounds_toArray, List.set_cons_zero, List.set_cons_succ, List.getElem_toArray, List.getElem_cons_zero]
  refine wpAnyH_take (i := 2) (v := ?_) rfl (by kernel_rfl) (by kernel_rfl) (by kernel_rfl) (fun _ _ _ h => h) (Or.inl ⟨by rfl, fun w hSw => ?_⟩) (by assumption) ?_
  rotate_left
  · (try dsimp only at hSw); go_simp; try with_reducible rfl
  simp only [Act.put, List.setIfInBounds_toArray, List.set_cons_zero, List.set_cons_succ, List.getElem_toArray, List.getElem_cons_succ, List.getElem_cons_zero]
  refine wpAnyH_ready (rs := [1]) (by kernel_rfl) (by simp) ?_
  refine AllReadyH.cons rfl (fun K hK => ?_) AllReadyH.nil
  simp only [List.getElem_toArray, List.getElem_cons_succ, List.getElem_cons_zero]
  go_simp
  refine (small_any w5).mono ?_
  rintro e w6 ⟨rfl, hb6⟩
  have s0 := (hb6.cell (p := ⟨w.heap.size, 0, none⟩) hgl5).trans t0
  have s1 := (hb6.cell (p := ⟨w.heap.size, 1, none⟩) hgl5).trans t1
  have s2 := (hb6.cell (p := ⟨w.heap.size, 2, none⟩) hgl5).trans t2
  have HB6 := Lib.hid (hB5.trans (hb6.mono hB5.size))
  have HR6 := Lib.hid (hr5.below hb6)
  clear hB5 hr5
  go_wp2_with (fail)
  refine hK.out _ _ ⟨s0, s1, s2⟩ (fun hHeld => ?_)
  clear hK K t0 t1 t2 hgl5 hb6
  refine wpAnyH_ready (rs := [3]) (by kernel_rfl) (by simp) ?_
  refine AllReadyH.cons rfl (fun K hK => ?_) AllReadyH.nil
  simp only [List.getElem_toArray, List.getElem_cons_succ, List.getElem_cons_zero]
  go_simp
  refine (open_any 3 3 12 e0 sl st HR6.out).mono ?_
  rintro e w7 hop
  have hok := openOk_small (R := newRk 4 41) rfl rfl sl st
  have t0 := (hop.1.cell (p := ⟨w.heap.size, 0, none⟩) (World.block_lt_of_cell? _ _ s0)).trans s0
  have t1 := (hop.1.cell (p := ⟨w.heap.size, 1, none⟩) (World.block_lt_of_cell? _ _ s1)).trans s1
  have t2 := (hop.1.cell (p := ⟨w.heap.size, 2, none⟩) (World.block_lt_of_cell? _ _ s2)).trans s2
  cases hmo : memOk 3 sl st with
  | false =>
    rw [hmo] at hok
    have HBX := Lib.hid (HB6.out.trans (hop.1.mono HB6.out.size))
    have hop' := hop.2
    rw [hok, if_neg Bool.false_ne_true] at hop'
    subst hop'
    have HMO := Lib.hid hmo
    clear hop s0 s1 s2 hok hmo
    go_wp2_with (fail)
    refine hK.out _ _ ⟨t0, t1, t2⟩ (fun hHeld => ?_)
    clear hK K t0 t1 t2
    refine wpAnyH_take (i := 4) (v := ?_) rfl (by kernel_rfl) (by kernel_rfl) (by kernel_rfl) (fun _ _ _ h => h) (Or.inl ⟨by rfl, fun w hSw => ?_⟩) (by assumption) ?_
    rotate_left
    · (try dsimp only at hSw); go_simp; try with_reducible rfl
    simp only [Act.put, List.setIfInBounds_toArray, List.set_cons_zero, List.set_cons_succ, List.getElem_toArray, List.getElem_cons_succ, List.getElem_cons_zero]
    refine wpAnyH_take (i := 5) (v := ?_) rfl (by kernel_rfl) (by kernel_rfl) (by kernel_rfl) (fun _ _ _ h => h) (Or.inl ⟨by rfl, fun w hSw => ?_⟩) (by assumption) ?_
    rotate_left
    · (try dsimp only at hSw); go_simp; try with_reducible rfl
    simp only [Act.put, List.setIfInBounds_toArray, List.set_cons_zero, List.set_cons_succ, List.getElem_toArray, List.getElem_cons_succ, List.getElem_cons_zero]
    refine wpAnyH_take (i := 6) (v := ?_) rfl (by kernel_rfl) (by kernel_rfl) (by kernel_rfl) (fun _ _ _ h => h) (Or.inl ⟨by rfl, fun w hSw => ?_⟩) (by assumption) ?_
    rotate_left
    · (try dsimp only at hSw); go_simp; try with_reducible rfl
    simp only [Act.put, List.setIfInBounds_toArray, List.set_cons_zero, List.set_cons_succ, List.getElem_toArray, List.getElem_cons_succ, List.getElem_cons_zero]
    refine wpAnyH_take (i := 7) (v := ?_) rfl (by kernel_rfl) (by kernel_rfl) (by kernel_rfl) (fun _ _ _ h => h) (Or.inl ⟨by rfl, fun w hSw => ?_⟩) (by assumption) ?_
    rotate_left
    · (try dsimp only at hSw); go_simp; try with_reducible rfl
    simp only [Act.put, List.setIfInBounds_toArray, List.set_cons_zero, List.set_cons_succ, List.getElem_toArray, List.getElem_cons_succ, List.getElem_cons_zero]
    refine wpAnyH_take (i := 8) (v := ?_) rfl (by kernel_rfl) (by kernel_rfl) (by kernel_rfl) (fun _ _ _ h => h) (Or.inl ⟨by rfl, fun w hSw => ?_⟩) (by assumption) ?_
    rotate_left
    · (try dsimp only at hSw); go_simp; try with_reducible rfl
    simp only [Act.put, List.setIfInBounds_toArray, List.set_cons_zero, List.set_cons_succ, List.getElem_toArray, List.getElem_cons_succ, List.getElem_cons_zero]
    refine wpAnyH_done (by kernel_rfl) ?_ _
    go_wp2_with (fail)
    go_ret2
    unfold OpP
    rw [HMO.out, if_neg Bool.false_ne_true]
    exact ⟨rfl, HBX.out⟩
  | true =>
    rw [hmo] at hok
    obtain ⟨b, rfl, hlt, hst⟩ := St.opened (w0 := w) HR6.out HLO.out HB6.out hop hok
    have HST := Lib.hid hst
    have HMO := Lib.hid hmo
    clear hst hop s0 s1 s2 hok hmo
    go_wp2_with (fail)
    refine hK.out _ _ ⟨t0, t1, t2⟩ (fun hHeld => ?_)
    clear hK K t0 t1 t2
    refine wpAnyH_take (i := 4) (v := ?_) rfl (by kernel_rfl) (by kernel_rfl) (by kernel_rfl) (fun _ _ _ h => h) (Or.inl ⟨by rfl, fun w hSw => ?_⟩) (by assumption) ?_
    rotate_left
    · (try dsimp only at hSw); go_simp; try with_reducible rfl
    simp only [Act.put, List.setIfInBounds_toArray, List.set_cons_zero, List.set_cons_succ, List.getElem_toArray, List.getElem_cons_succ, List.getElem_cons_zero]
    refine wpAnyH_take (i := 5) (v := ?_) rfl (by kernel_rfl) (by kernel_rfl) (by kernel_rfl) (fun _ _ _ h => h) (Or.inl ⟨by rfl, fun w hSw => ?_⟩) (by assumption) ?_
    rotate_left
    · (try dsimp only at hSw); go_simp; try with_reducible rfl
    simp only [Act.put, List.setIfInBounds_toArray, List.set_cons_zero, List.set_cons_succ, List.getElem_toArray, List.getElem_cons_succ, List.getElem_cons_zero]
    refine wpAnyH_take (i := 6) (v := ?_) rfl (by kernel_rfl) (by kernel_rfl) (by kernel_rfl) (fun _ _ _ h => h) (Or.inl ⟨by rfl, fun w hSw => ?_⟩) (by assumption) ?_
    rotate_left
    · (try dsimp only at hSw); go_simp; try with_reducible rfl
    simp only [Act.put, List.setIfInBounds_toArray, List.set_cons_zero, List.set_cons_succ, List.getElem_toArray, List.getElem_cons_succ, List.getElem_cons_zero]
    refine wpAnyH_take (i := 7) (v := ?_) rfl (by kernel_rfl) (by kernel_rfl) (by kernel_rfl) (fun _ _ _ h => h) (Or.inl ⟨by rfl, fun w hSw => ?_⟩) (by assumption) ?_
    rotate_left
    · (try dsimp only at hSw); go_simp; try with_reducible rfl
    simp only [Act.put, List.setIfInBounds_toArray, List.set_cons_zero, List.set_cons_succ, List.getElem_toArray, List.getElem_cons_succ, List.getElem_cons_zero]
    refine wpAnyH_take (i := 8) (v := ?_) rfl (by kernel_rfl) (by kernel_rfl) (by kernel_rfl) (fun _ _ _ h => h) (Or.inl ⟨by rfl, fun w hSw => ?_⟩) (by assumption) ?_
    rotate_left
    · (try dsimp only at hSw); go_simp; try with_reducible rfl
    simp only [Act.put, List.setIfInBounds_toArray, List.set_cons_zero, List.set_cons_succ, List.getElem_toArray, List.getElem_cons_succ, List.getElem_cons_zero]
    refine wpAnyH_done (by kernel_rfl) ?_ _
    go_wp2_with (fail)
    go_ret2
    unfold OpP
    rw [HMO.out, if_pos rfl]
    exact ⟨L, b, rfl, HST.out⟩

theorem RefAt.also {w w' : World} {M N : Nat → Prop} {L : RLay} {F : Rf} (h : RefAt w M L F) (hb : Below w.heap.size w w') (hN : ∀ k, N k → w.heap.size ≤ k ∧ k < w'.heap.size) : RefAt w' (Go.Proofs.YtciddoeeiamndaaGreat.also M N) L F := by
  have hw := h.below hb
  obtain ⟨fl, fc, h⟩ := h
  have hs : ∀ {v : Value} {zs : List Int}, SlL w M v zs → SlL w' (Go.Proofs.YtciddoeeiamndaaGreat.also M N) v zs := by
    rintro v zs ⟨g, c, rfl, hg, hy⟩
    refine ⟨g, c, rfl, fun x => ?_, hy.next hb⟩
    rcases x with x | x
    · exact hg x
    · rcases hy.place with h0 | ⟨b, off, e, hl, _⟩
      · omega
      · cases e
        have := (hN _ x).1
        omega
  have ht : Turn (fun _ => False) w w' := Turn.of_below hb
  have hf := h.keep ht (fun _ x => x.elim) (fun _ _ x => x)
  exact ⟨fl, fc, ⟨hf.row, hf.cl, hf.cc, hf.cb, hf.cn, fun k hk => hs (h.last k hk), fun k hk => (h.cach k hk).imp id fun ⟨zs, e, hz⟩ => ⟨zs, e, hs hz⟩, hf.apart, fun k hk => .inl (h.sub k hk), fun k hk => hk.elim (fun x => Nat.lt_of_lt_of_le (h.low k x) hb.size) (fun x => (hN k x).2), hf.few, hf.one, hf.fewS, hf.bigp, hf.bigc⟩⟩

/-- Both banks. -/
theorem Two.made {w0 w5 w8 w10 : World} {L : Lay} {K : RLay} {b P : Nat} {e sl st : Int} {en' : Ending} (hst : St w0 (also (L.M 4) (· = b)) L b (newRk 4 41) ⟨3, 3, 12, e, sl, st⟩ w5)
    (hb8 : Below w5.heap.size w5 w8) (hP : w5.heap.size ≤ P) (hKlo : ∀ k, K.M k → P ≤ k) (hrf : RefAt w8 (fun k => also (L.M 4) (· = b) k ∨ K.M k) K (newRf 4 41)) (hr : Rel (newRk 4 41) (newRf 4 41))
    (h10 : ROpenPost K.p (newRk 4 41) 3 3 12 e sl st w8 en' w10) (hok : openOk (newRk 4 41) 3 3 12 sl st = true) :
    ∃ M y, en' = .returned (.tuple #[.pointer (some ⟨y, 0, none⟩), .int .i64 0]) ∧ Two w0 M L K b y (newRk 4 41) (newRf 4 41) ⟨3, 3, 12, e, sl, st⟩ w10 := by
  obtain ⟨hb10, h10⟩ := h10
  rw [hok, if_pos rfl] at h10
  obtain ⟨y, rfl, hly, hY⟩ := h10
  have hyl := hY.lt
  have hs8 := hb8.size
  have hs10 := hb10.size
  have hs0 := hst.bel.size
  have hL : ∀ k, L.M 4 k → k < w5.heap.size := fun k hk => hst.rk.low k (.inl hk)
  have hbb : b < w5.heap.size := hst.rk.low b (.inr rfl)
  have hKl : ∀ k, K.M k → k < w8.heap.size := fun k hk => hrf.low k (.inr hk)
  have hN : ∀ k, (k = y) → w8.heap.size ≤ k ∧ k < w10.heap.size := by
    rintro k rfl
    exact ⟨hly, hyl⟩
  have hrk8 : RackAt w8 (fun k => also (L.M 4) (· = b) k ∨ K.M k) L (newRk 4 41) := hst.rk.also hb8 (fun k hk => ⟨Nat.le_trans hP (hKlo k hk), hKl k hk⟩)
  refine ⟨also (fun k => also (L.M 4) (· = b) k ∨ K.M k) (fun k => k = y), y, rfl, ⟨hrk8.also hb10 hN, (hst.bk.next hb8).next hb10, .inl (.inl (.inr rfl)), hst.nb, fun k hk => ?_, hst.bel.trans ((hb8.trans (hb10.mono hs8)).mono hs0)⟩, hrf.also hb10 hN, hY, .inr rfl, fun x => ?_, fun x => ?_, fun x => ?_, fun k hk x => ?_, by omega, hr⟩
  · rcases hk with (hk | hk) | hk
    · exact hst.lo k hk
    · have := hKlo k hk; omega
    · have := (hN k hk).1; omega
  · have := hL y x; omega
  · have := hKlo b x; omega
  · have := hKl y x; omega
  · have h1 := hL k hk; have h2 := hKlo k x; omega

end Go.Proofs.YtciddoeeiamndaaGreat

/-
  StripeCalls' walk.
-/
namespace Go.Proofs.YtciddoeeiamndaaGreat
open Go.RowKit Go.Maps
set_option linter.unusedVariables false

theorem rdV_len {w : World} {M : Nat → Prop} {L : Lay} {R : Rk} (h : RackAt w M L R) (i k : Int) : (R.rdV i k).length ≤ 64 := by
  unfold Rk.rdV
  split
  · rename_i e
    have g : hasB R.n R.S i k = true := by
      unfold Rk.rdE at e
      by_cases ho : R.off = true
      · rw [if_pos ho] at e; omega
      · rw [if_neg ho] at e
        by_cases g : hasB R.n R.S i k = true
        · exact g
        · rw [if_neg g] at e; omega
    obtain ⟨x, y, rfl, rfl, hx, hy⟩ := hasB_nat g
    exact Nat.le_of_eq (h.lens _ _ hx hy)
  · exact Nat.zero_le _
section
variable {w0 w w' : World} {M : Nat → Prop} {L : Lay} {K : RLay} {b y n : Nat} {R : Rk} {F : Rf} {B : Bn}
theorem told_all7 (c : Cs) (h : Two w0 M L K b y R F B w) (hS : Sml B) (hRn : R.n = 4) (hRS : R.S = 41) (hbl : Bls w0 c.ab c.nb c.fb) (hbb : BlBig c.nb c.fb) (hnb : c.nb ≤ 20000) (hz : Pin w0 c.ad c.nd c.cd c.zd) (hs : c.s ≤ 9223372036854775807) :
    Calls Tryz.prog 12 #[.pointer (some ⟨L.p, 0, none⟩), .pointer (some ⟨b, 0, none⟩), .pointer (some ⟨K.p, 0, none⟩), .pointer (some ⟨y, 0, none⟩), cl7 c.q c.g c.k c.s c.ab c.nb c.cb c.ad c.nd c.cd c.e c.sl c.st] w (ToldQ w0 M L K b y) := by
  obtain ⟨q, g, k, s, ab, nb, cb, fb, ad, nd, cd, zd, e, sl, st⟩ := c
  simp only at hbl hbb hnb hz hs ⊢
  by_cases e0 : q = 0
  · subst e0; exact told_write h hS hRn hRS hbl hbb (by omega)
  by_cases e1 : q = 1
  · subst e1; exact told_read h hS hRn hRS
  by_cases e2 : q = 2
  · subst e2; exact told_whole h hS hRn hRS
  by_cases e3 : q = 3
  · subst e3; exact told_missing h hS hRn hRS
  by_cases e4 : q = 4
  · subst e4; exact told_refill h hS hRn hRS
  by_cases e5 : q = 5
  · subst e5; exact told_sound h hS hRn hRS
  by_cases e6 : q = 6
  · subst e6; exact told_data h hS hRn hRS hz
  by_cases e7 : q = 7
  · subst e7; exact told_join h hS hRn hRS
  by_cases e8 : q = 8
  · subst e8; exact told_doom h hS hRn hRS hs
  by_cases e9 : q = 9
  · subst e9; exact told_arm h hS hRn hRS hs
  by_cases e10 : q = 10
  · subst e10; exact told_restore h hS hRn hRS
  exact told_none h hS hRn hRS (by simpa using e0) (by simpa using e1) (by simpa using e2) (by simpa using e3) (by simpa using e4) (by simpa using e5) (by simpa using e6) (by simpa using e7) (by simpa using e8) (by simpa using e9) (by simpa using e10)
end
/-- A member's cells in block p. -/
structure Mbx (w : World) (p : Nat) (e sl st : Int) : Prop where
  lt : p < w.heap.size
  c0 : w.cell? ⟨p, 0, none⟩ = some (.int .i64 e)
  c1 : w.cell? ⟨p, 1, none⟩ = some (.int .i64 sl)
  c2 : w.cell? ⟨p, 2, none⟩ = some (.int .i64 st)
theorem Mbx.next {w w' : World} {p : Nat} {e sl st : Int} (h : Mbx w p e sl st) (hb : Below w.heap.size w w') : Mbx w' p e sl st :=
  ⟨Nat.lt_of_lt_of_le h.lt hb.size, (hb.cell (p := ⟨p, 0, none⟩) h.lt).trans h.c0, (hb.cell (p := ⟨p, 1, none⟩) h.lt).trans h.c1, (hb.cell (p := ⟨p, 2, none⟩) h.lt).trans h.c2⟩
set_option maxRecDepth 100000 in
set_option maxHeartbeats 8000000 in
theorem calls_all7 (e sl st : Int) (a : Option Addr) (len cap : Nat) (f : Nat → Cs) (w : World) (hc : CssAt w a len f) (hl : len ≤ maxLen) :
    Calls Tryz.prog 3 #[mb e sl st, .slice a len cap] w fun e w' => e = .returned (.bool true) ∧ Below w.heap.size w w' := by
  obtain ⟨w0, hw0⟩ : ∃ w0, w0 = w.alloc (.cells #[.int .i64 e, .int .i64 sl, .int .i64 st] 23) := ⟨_, rfl⟩
  have HB0 : Hid (Below w.heap.size w w0) := by rw [hw0]; exact (Below.refl _ _).alloc (Nat.le_refl _) _
  obtain ⟨p, hp⟩ : ∃ p, p = w.heap.size := ⟨_, rfl⟩
  have HX0 : Hid (Mbx w0 p e sl st) := by rw [hw0, hp]; refine ⟨by simp, ?_, ?_, ?_⟩ <;> simp
  have HCS := Lib.hid hc
  have HL := Lib.hid hl
  clear hc hl
  go_enter Tryz.func3, Tryz.ntmps3
  go_wp2_with (fail)
  rw [← hw0, ← hp]
  clear hw0 hp
  refine (alive_any _).mono ?_
  rintro e1 w1 ⟨rfl, hb1⟩
  have HX1 := Lib.hid (HX0.out.next hb1)
  have HB1 := Lib.hid (HB0.out.trans (hb1.mono HB0.out.size))
  clear hb1 HX0 HB0
  go_wp2_with (fail)
  have hcs1 : CssAt w1 a len f := by
    rcases HCS.out with h0 | ⟨bb, off, e', hlt, hcc⟩
    · exact .inl h0
    · exact .inr ⟨bb, off, e', Nat.lt_of_lt_of_le hlt HB1.out.size, fun i hi => (hcc i hi).next hlt HB1.out⟩
  refine (great_any a len cap f w1 hcs1 HL.out).mono ?_
  rintro e2 w2 ⟨G, rfl, hb2, hgr⟩
  have HX2 := Lib.hid (HX1.out.next hb2)
  have HB2 := Lib.hid (HB1.out.trans (hb2.mono HB1.out.size))
  clear hb2 HX1 HB1 hcs1
  cases G with
  | true =>
    clear hgr
    go_wp2_with (fail)
    go_ret
    exact ⟨rfl, HB2.out⟩
  | false =>
    have HGR := Lib.hid (hgr rfl)
    have m0 := HX2.out.c0
    have m1 := HX2.out.c1
    have m2 := HX2.out.c2
    clear hgr
    go_wp2_with (fail)
    refine (open_memb e sl st w2).mono ?_
    rintro e3 w3 hop
    have hB23 : Below w2.heap.size w2 w3 := by
      unfold OpP at hop
      by_cases h : memOk 3 sl st = true
      · rw [if_pos h] at hop
        obtain ⟨L, b, _, hst⟩ := hop
        exact hst.bel
      · rw [if_neg h] at hop
        exact hop.2
    have HX3 := Lib.hid (HX2.out.next hB23)
    have HB3 := Lib.hid (HB2.out.trans (hB23.mono HB2.out.size))
    clear m0 m1 m2 hB23
    cases hmo : memOk 3 sl st with
    | false =>
      unfold OpP at hop
      rw [hmo, if_neg Bool.false_ne_true] at hop
      obtain ⟨rfl, _⟩ := hop
      have HMO := Lib.hid hmo
      clear hmo
      go_wp2_with (fail)
      refine (small_any w3).mono ?_
      rintro e4 w4 ⟨rfl, hb4⟩
      have HX4 := Lib.hid (HX3.out.next hb4)
      have HB34 := Lib.hid hb4
      clear hb4
      go_wp2_with (fail)
      refine (sectors_all 3 3 12 w4).mono ?_
      rintro e5 w5 ⟨rfl, hb5⟩
      rw [sect_small]
      have HX5 := Lib.hid (HX4.out.next hb5)
      have HB35 := Lib.hid (HB34.out.trans (hb5.mono HB34.out.size))
      clear hb5
      go_wp2_with (fail)
      refine (rnew_ok 4 41 w5 (by omega) (by omega) (by omega) (by omega)).mono ?_
      rintro e6 w6 ⟨v, xs, rfl, hD, hx1, hx2, hx3, hb6⟩
      obtain ⟨g0, m0, f0⟩ := hD.form 0 (by omega) (by decide)
      obtain ⟨g1, m1, f1⟩ := hD.form 1 (by omega) (by decide)
      obtain ⟨g2, m2, f2⟩ := hD.form 2 (by omega) (by decide)
      obtain ⟨g3, m3, f3⟩ := hD.form 3 (by omega) (by decide)
      have f0 : v 0 = .slice (some ⟨g0, 0, none⟩) 164 m0 := f0
      have f1 : v 1 = .slice (some ⟨g1, 0, none⟩) 164 m1 := f1
      have f2 : v 2 = .slice (some ⟨g2, 0, none⟩) 4 m2 := f2
      have f3 : v 3 = .slice (some ⟨g3, 0, none⟩) 4 m3 := f3
      obtain ⟨W8, hW8⟩ : ∃ W8, W8 = w6.alloc (.cells #[.int .i64 4, .int .i64 41, .slice (some ⟨g0, 0, none⟩) 164 m0, .slice (some ⟨g1, 0, none⟩) 164 m1, .slice (some ⟨g2, 0, none⟩) 4 m2, .slice (some ⟨g3, 0, none⟩) 4 m3, .int .i64 (-1), .bool false] 35 (0, 0)) := ⟨_, rfl⟩
      have hb8 : Below w6.heap.size w6 W8 := by rw [hW8]; exact (Below.refl _ _).alloc (Nat.le_refl _) _
      have hb58 := hb6.trans (hb8.mono hb6.size)
      have HX8 := Lib.hid (HX5.out.next hb58)
      have HB38 := Lib.hid (HB35.out.trans (hb58.mono HB35.out.size))
      obtain ⟨P, hP⟩ : ∃ P, P = w6.heap.size := ⟨_, rfl⟩
      have HQ8 : Hid (W8.cell? ⟨P, 0, none⟩ = some (.int .i64 (4 : Nat)) ∧ W8.cell? ⟨P, 1, none⟩ = some (.int .i64 (41 : Nat))) := by rw [hW8, hP]; constructor <;> simp
      rw [f0, f1, f2, f3]
      clear hD hx1 hx2 hx3 hb6 hb8 hb58 f0 f1 f2 f3
      go_wp2_with (fail)
      rw [← hW8, ← hP]
      clear hW8 hP
      have hb0 : Below W8.heap.size W8 W8.drew := below_drewN (Below.refl _ W8) 1
      have hX9 := HX8.out.next hb0
      have x0 := hX9.c0
      have x1 := hX9.c1
      have x2 := hX9.c2
      have HX9 := Lib.hid hX9
      have HB89 := Lib.hid hb0
      generalize hW9 : W8.drew = W9 at *
      clear hb0 hX9
      refine wp_region_held_drew (S := fun w' => w'.cell? ⟨p, 0, none⟩ = some (.int .i64 e) ∧ w'.cell? ⟨p, 1, none⟩ = some (.int .i64 sl) ∧ w'.cell? ⟨p, 2, none⟩ = some (.int .i64 st)) (by kernel_rfl) ?_ (fun hHeld => ?_)
      · rw [hW9]; exact ⟨x0, x1, x2⟩
      rw [hW9] at hHeld
      rw [hW9]
      clear hW9
      refine wpAnyH_take (i := 1) (v := ?_) rfl (by kernel_rfl) (by kernel_rfl) (by kernel_rfl) (fun _ _ _ h => h) (Or.inl ⟨by rfl, fun w hSw => ?_⟩) (by assumption) ?_
      rotate_left
      · (try dsimp only at hSw); go_simp; try with_reducible rfl
      simp only [Act.put, List.setIfInBounds_toArray, List.set_cons_zero, List.set_cons_succ, List.getElem_toArray, List.getElem_cons_succ, List.getElem_cons_zero]
      refine wpAnyH_ready (rs := [0]) (by kernel_rfl) (by simp) ?_
      refine AllReadyH.cons rfl (fun K hK => ?_) AllReadyH.nil
      simp only [List.getElem_toArray, List.getElem_cons_succ, List.getElem_cons_zero]
      go_simp
      refine (small_any W9).mono ?_
      rintro e7 w7 ⟨rfl, hb7⟩
      have hX7 := HX9.out.next hb7
      have HX7 := Lib.hid hX7
      have HB87 := Lib.hid (HB89.out.trans (hb7.mono HB89.out.size))
      clear hb7
      go_wp2_with (fail)
      refine hK.out _ _ ⟨hX7.c0, hX7.c1, hX7.c2⟩ (fun hHeld => ?_)
      clear hK K hX7 x0 x1 x2
      refine wpAnyH_ready (rs := [2]) (by kernel_rfl) (by simp) ?_
      refine AllReadyH.cons rfl (fun K hK => ?_) AllReadyH.nil
      simp only [List.getElem_toArray, List.getElem_cons_succ, List.getElem_cons_zero]
      go_simp
      refine (ropen_any (newRk 4 41) P 4 41 3 3 12 e sl st w7 rfl rfl (q_next HQ8.out (World.block_lt_of_cell? _ _ HQ8.out.1) HB87.out)).mono ?_
      rintro e8 w8 hop8
      have hX8 := HX7.out.next hop8.1
      have HB88 := Lib.hid (HB87.out.trans (hop8.1.mono HB87.out.size))
      have hop6 := hop8.2
      rw [openOk_small (R := newRk 4 41) rfl rfl, HMO.out, if_neg Bool.false_ne_true] at hop6
      subst hop6
      have HBX := Lib.hid (HB3.out.trans ((HB38.out.trans (HB88.out.mono HB38.out.size)).mono HB3.out.size))
      clear hop8
      go_wp2_with (fail)
      refine hK.out _ _ ⟨hX8.c0, hX8.c1, hX8.c2⟩ (fun hHeld => ?_)
      clear hK K hX8
      refine wpAnyH_take (i := 3) (v := ?_) rfl (by kernel_rfl) (by kernel_rfl) (by kernel_rfl) (fun _ _ _ h => h) (Or.inl ⟨by rfl, fun w hSw => ?_⟩) (by assumption) ?_
      rotate_left
      · (try dsimp only at hSw); go_simp; try with_reducible rfl
      simp only [Act.put, List.setIfInBounds_toArray, List.set_cons_zero, List.set_cons_succ, List.getElem_toArray, List.getElem_cons_succ, List.getElem_cons_zero]
      refine wpAnyH_take (i := 4) (v := ?_) rfl (by kernel_rfl) (by kernel_rfl) (by kernel_rfl) (fun _ _ _ h => h) (Or.inl ⟨by rfl, fun w hSw => ?_⟩) (by assumption) ?_
      rotate_left
      · (try dsimp only at hSw); go_simp; try with_reducible rfl
      simp only [Act.put, List.setIfInBounds_toArray, List.set_cons_zero, List.set_cons_succ, List.getElem_toArray, List.getElem_cons_succ, List.getElem_cons_zero]
      refine wpAnyH_take (i := 5) (v := ?_) rfl (by kernel_rfl) (by kernel_rfl) (by kernel_rfl) (fun _ _ _ h => h) (Or.inl ⟨by rfl, fun w hSw => ?_⟩) (by assumption) ?_
      rotate_left
      · (try dsimp only at hSw); go_simp; try with_reducible rfl
      simp only [Act.put, List.setIfInBounds_toArray, List.set_cons_zero, List.set_cons_succ, List.getElem_toArray, List.getElem_cons_succ, List.getElem_cons_zero]
      refine wpAnyH_take (i := 6) (v := ?_) rfl (by kernel_rfl) (by kernel_rfl) (by kernel_rfl) (fun _ _ _ h => h) (Or.inl ⟨by rfl, fun w hSw => ?_⟩) (by assumption) ?_
      rotate_left
      · (try dsimp only at hSw); go_simp; try with_reducible rfl
      simp only [Act.put, List.setIfInBounds_toArray, List.set_cons_zero, List.set_cons_succ, List.getElem_toArray, List.getElem_cons_succ, List.getElem_cons_zero]
      refine wpAnyH_take (i := 7) (v := ?_) rfl (by kernel_rfl) (by kernel_rfl) (by kernel_rfl) (fun _ _ _ h => h) (Or.inl ⟨by rfl, fun w hSw => ?_⟩) (by assumption) ?_
      rotate_left
      · (try dsimp only at hSw); go_simp; try with_reducible rfl
      simp only [Act.put, List.setIfInBounds_toArray, List.set_cons_zero, List.set_cons_succ, List.getElem_toArray, List.getElem_cons_succ, List.getElem_cons_zero]
      refine wpAnyH_done (by kernel_rfl) ?_ _
      clear hHeld
      go_wp2_with (fail)
      go_ret
      exact ⟨rfl, HBX.out⟩
    | true =>
      unfold OpP at hop
      rw [hmo, if_pos rfl] at hop
      obtain ⟨L, b, rfl, hst⟩ := hop
      have HMO := Lib.hid hmo
      have HST := Lib.hid hst
      clear hmo hst
      go_wp2_with (fail)
      refine (small_any w3).mono ?_
      rintro e4 w4 ⟨rfl, hb4⟩
      have HX4 := Lib.hid (HX3.out.next hb4)
      have HB34 := Lib.hid hb4
      clear hb4
      go_wp2_with (fail)
      refine (sectors_all 3 3 12 w4).mono ?_
      rintro e5 w5 ⟨rfl, hb5⟩
      rw [sect_small]
      have HX5 := Lib.hid (HX4.out.next hb5)
      have HB35 := Lib.hid (HB34.out.trans (hb5.mono HB34.out.size))
      clear hb5
      go_wp2_with (fail)
      refine (rnew_ok 4 41 w5 (by omega) (by omega) (by omega) (by omega)).mono ?_
      rintro e6 w6 ⟨v, xs, rfl, hD, hx1, hx2, hx3, hb6⟩
      obtain ⟨g0, m0, f0⟩ := hD.form 0 (by omega) (by decide)
      obtain ⟨g1, m1, f1⟩ := hD.form 1 (by omega) (by decide)
      obtain ⟨g2, m2, f2⟩ := hD.form 2 (by omega) (by decide)
      obtain ⟨g3, m3, f3⟩ := hD.form 3 (by omega) (by decide)
      have f0 : v 0 = .slice (some ⟨g0, 0, none⟩) 164 m0 := f0
      have f1 : v 1 = .slice (some ⟨g1, 0, none⟩) 164 m1 := f1
      have f2 : v 2 = .slice (some ⟨g2, 0, none⟩) 4 m2 := f2
      have f3 : v 3 = .slice (some ⟨g3, 0, none⟩) 4 m3 := f3
      obtain ⟨W8, hW8⟩ : ∃ W8, W8 = w6.alloc (.cells #[.int .i64 4, .int .i64 41, .slice (some ⟨g0, 0, none⟩) 164 m0, .slice (some ⟨g1, 0, none⟩) 164 m1, .slice (some ⟨g2, 0, none⟩) 4 m2, .slice (some ⟨g3, 0, none⟩) 4 m3, .int .i64 (-1), .bool false] 35 (0, 0)) := ⟨_, rfl⟩
      have hb8 : Below w6.heap.size w6 W8 := by rw [hW8]; exact (Below.refl _ _).alloc (Nat.le_refl _) _
      have hb58 := hb6.trans (hb8.mono hb6.size)
      have HX8 := Lib.hid (HX5.out.next hb58)
      have HB38 := Lib.hid (HB35.out.trans (hb58.mono HB35.out.size))
      obtain ⟨P, hP⟩ : ∃ P, P = w6.heap.size := ⟨_, rfl⟩
      have HQ8 : Hid (W8.cell? ⟨P, 0, none⟩ = some (.int .i64 (4 : Nat)) ∧ W8.cell? ⟨P, 1, none⟩ = some (.int .i64 (41 : Nat))) := by rw [hW8, hP]; constructor <;> simp
      have hbs : ∀ k, also (L.M 4) (· = b) k → k < w3.heap.size := fun k hk => HST.out.rk.low k hk
      obtain ⟨Z, hKp, hKlo, hKrf⟩ := RefAt.of_new2 hD hb8 hP (by have := lt_of_block hD.row; omega) hx1 hx2 hx3 (by rw [hW8, hP, f0, f1, f2, f3]; exact heap_alloc_new w6 _) (by omega) (by omega) (by omega) (by omega) (also (L.M 4) (· = b)) (fun k hk => by have h1 := hbs k hk; have h2 := HB35.out.size; omega)
      have HKP := Lib.hid hKp
      have HKLO : Hid (∀ k, Z.M k → w5.heap.size ≤ k) := fun k hk => by have := hKlo k hk; omega
      have HKRF := Lib.hid hKrf
      clear hbs hKp hKlo hKrf
      rw [f0, f1, f2, f3]
      clear hD hx1 hx2 hx3 hb6 hb8 hb58 f0 f1 f2 f3
      go_wp2_with (fail)
      rw [← hW8, ← hP]
      clear hW8 hP
      have hb0 : Below W8.heap.size W8 W8.drew := below_drewN (Below.refl _ W8) 1
      have hX9 := HX8.out.next hb0
      have x0 := hX9.c0
      have x1 := hX9.c1
      have x2 := hX9.c2
      have HX9 := Lib.hid hX9
      have HB89 := Lib.hid hb0
      generalize hW9 : W8.drew = W9 at *
      clear hb0 hX9
      refine wp_region_held_drew (S := fun w' => w'.cell? ⟨p, 0, none⟩ = some (.int .i64 e) ∧ w'.cell? ⟨p, 1, none⟩ = some (.int .i64 sl) ∧ w'.cell? ⟨p, 2, none⟩ = some (.int .i64 st)) (by kernel_rfl) ?_ (fun hHeld => ?_)
      · rw [hW9]; exact ⟨x0, x1, x2⟩
      rw [hW9] at hHeld
      rw [hW9]
      clear hW9
      refine wpAnyH_take (i := 1) (v := ?_) rfl (by kernel_rfl) (by kernel_rfl) (by kernel_rfl) (fun _ _ _ h => h) (Or.inl ⟨by rfl, fun w hSw => ?_⟩) (by assumption) ?_
      rotate_left
      · (try dsimp only at hSw); go_simp; try with_reducible rfl
      simp only [Act.put, List.setIfInBounds_toArray, List.set_cons_zero, List.set_cons_succ, List.getElem_toArray, List.getElem_cons_succ, List.getElem_cons_zero]
      refine wpAnyH_ready (rs := [0]) (by kernel_rfl) (by simp) ?_
      refine AllReadyH.cons rfl (fun K hK => ?_) AllReadyH.nil
      simp only [List.getElem_toArray, List.getElem_cons_succ, List.getElem_cons_zero]
      go_simp
      refine (small_any W9).mono ?_
      rintro e7 w7 ⟨rfl, hb7⟩
      have hX7 := HX9.out.next hb7
      have HX7 := Lib.hid hX7
      have HB87 := Lib.hid (HB89.out.trans (hb7.mono HB89.out.size))
      clear hb7
      go_wp2_with (fail)
      refine hK.out _ _ ⟨hX7.c0, hX7.c1, hX7.c2⟩ (fun hHeld => ?_)
      clear hK K hX7 x0 x1 x2
      refine wpAnyH_ready (rs := [2]) (by kernel_rfl) (by simp) ?_
      refine AllReadyH.cons rfl (fun K hK => ?_) AllReadyH.nil
      simp only [List.getElem_toArray, List.getElem_cons_succ, List.getElem_cons_zero]
      go_simp
      refine (ropen_any (newRk 4 41) P 4 41 3 3 12 e sl st w7 rfl rfl (q_next HQ8.out (World.block_lt_of_cell? _ _ HQ8.out.1) HB87.out)).mono ?_
      rintro e8 w8 hop8
      have hX8 := HX7.out.next hop8.1
      have HB88 := Lib.hid (HB87.out.trans (hop8.1.mono HB87.out.size))
      obtain ⟨M, y, rfl, htwo⟩ := Two.made (w0 := w2) (P := w5.heap.size) HST.out (HB38.out.trans (HB87.out.mono HB38.out.size)) HB35.out.size HKLO.out (HKRF.out.below HB87.out) (Rel.new 4 41) (by rw [HKP.out]; exact hop8) (by rw [openOk_small (R := newRk 4 41) rfl rfl]; exact HMO.out)
      have HTW := Lib.hid htwo
      clear hop8 htwo
      go_wp2_with (fail)
      refine hK.out _ _ ⟨hX8.c0, hX8.c1, hX8.c2⟩ (fun hHeld => ?_)
      clear hK K hX8
      refine wpAnyH_take (i := 3) (v := ?_) rfl (by kernel_rfl) (by kernel_rfl) (by kernel_rfl) (fun _ _ _ h => h) (Or.inl ⟨by rfl, fun w hSw => ?_⟩) (by assumption) ?_
      rotate_left
      · (try dsimp only at hSw); go_simp; try with_reducible rfl
      simp only [Act.put, List.setIfInBounds_toArray, List.set_cons_zero, List.set_cons_succ, List.getElem_toArray, List.getElem_cons_succ, List.getElem_cons_zero]
      refine wpAnyH_take (i := 4) (v := ?_) rfl (by kernel_rfl) (by kernel_rfl) (by kernel_rfl) (fun _ _ _ h => h) (Or.inl ⟨by rfl, fun w hSw => ?_⟩) (by assumption) ?_
      rotate_left
      · (try dsimp only at hSw); go_simp; try with_reducible rfl
      simp only [Act.put, List.setIfInBounds_toArray, List.set_cons_zero, List.set_cons_succ, List.getElem_toArray, List.getElem_cons_succ, List.getElem_cons_zero]
      refine wpAnyH_take (i := 5) (v := ?_) rfl (by kernel_rfl) (by kernel_rfl) (by kernel_rfl) (fun _ _ _ h => h) (Or.inl ⟨by rfl, fun w hSw => ?_⟩) (by assumption) ?_
      rotate_left
      · (try dsimp only at hSw); go_simp; try with_reducible rfl
      simp only [Act.put, List.setIfInBounds_toArray, List.set_cons_zero, List.set_cons_succ, List.getElem_toArray, List.getElem_cons_succ, List.getElem_cons_zero]
      refine wpAnyH_take (i := 6) (v := ?_) rfl (by kernel_rfl) (by kernel_rfl) (by kernel_rfl) (fun _ _ _ h => h) (Or.inl ⟨by rfl, fun w hSw => ?_⟩) (by assumption) ?_
      rotate_left
      · (try dsimp only at hSw); go_simp; try with_reducible rfl
      simp only [Act.put, List.setIfInBounds_toArray, List.set_cons_zero, List.set_cons_succ, List.getElem_toArray, List.getElem_cons_succ, List.getElem_cons_zero]
      refine wpAnyH_take (i := 7) (v := ?_) rfl (by kernel_rfl) (by kernel_rfl) (by kernel_rfl) (fun _ _ _ h => h) (Or.inl ⟨by rfl, fun w hSw => ?_⟩) (by assumption) ?_
      rotate_left
      · (try dsimp only at hSw); go_simp; try with_reducible rfl
      simp only [Act.put, List.setIfInBounds_toArray, List.set_cons_zero, List.set_cons_succ, List.getElem_toArray, List.getElem_cons_succ, List.getElem_cons_zero]
      refine wpAnyH_done (by kernel_rfl) ?_ _
      clear hHeld
      rw [← HKP.out]
      have HSM0 : Hid (Sml (⟨3, 3, 12, e, sl, st⟩ : Bn)) := ⟨rfl, rfl, rfl⟩
      clear HX8 HX9 HX7 HQ8 HB89
      go_wp2_with (fail)
      go_loopw [11] (fun v wr => ∃ (i : Nat) (R : Rk) (F : Rf) (B : Bn), i ≤ len ∧ v = .int .i64 i ∧ Two w2 M L Z b y R F B wr ∧ Sml B ∧ R.n = 4 ∧ R.S = 41) (fun v _ => len - (RowKit.intOf v).toNat)
      case atStart => exact ⟨0, _, _, _, by omega, rfl, HTW.out, HSM0.out, rfl, rfl⟩
      case round =>
        obtain ⟨i, R, F, B, i1, rfl, htw, hsm, hrn, hrs⟩ := hrel
        have HT1 := Lib.hid htw
        have HSM1 := Lib.hid hsm
        have HRN := Lib.hid hrn
        have HRS := Lib.hid hrs
        have HBR := Lib.hid (HB2.out.trans (htw.st.bel.mono HB2.out.size))
        clear HTW htw hsm hrn hrs
        by_cases hlt : i < len
        · rcases HCS.out with h0 | ⟨g', off, rfl, hlb, hcall⟩
          · omega
          have hci := (hcall i hlt).next hlb HBR.out
          have hc2 := (hcall i hlt).next hlb HB2.out
          have htold := told_all7 (f i) HT1.out HSM1.out HRN.out HRS.out hc2.bl hc2.bb ((HGR.out.2 i hlt).2) hc2.pin hc2.big
          have HTO := Lib.hid htold
          have k0 := hci.k0
          have k1 := hci.k1
          have k2 := hci.k2
          have k3 := hci.k3
          have k4 := hci.k4
          have k5 := hci.k5
          have k6 := hci.k6
          have k7 := hci.k7
          have k8 := hci.k8
          have i0 : (0 : Int) ≤ (i : Int) := by omega
          have i2 : (i : Int) < (len : Int) := by omega
          clear hci hc2 htold hcall
          go_wp2_with (fail)
          refine HTO.out.mono ?_
          rintro e9 w11 ⟨rfl, R', F', B', htw', hs', hn', hS'⟩
          have HT' := Lib.hid htw'
          have HS' := Lib.hid hs'
          have HN' := Lib.hid hn'
          have HSS := Lib.hid hS'
          have hlen60 : len ≤ 60 := HGR.out.1
          clear HTO k0 k1 k2 k3 k4 k5 k6 k7 k8 htw' hs' hn' hS'
          go_wp2_with (fail)
          go_roundw
          case rel => exact ⟨i + 1, R', F', B', by omega, by go_num, HT'.out, HS'.out, HN'.out, HSS.out⟩
          case measure => simp [RowKit.intOf]; omega
        · obtain rfl : i = len := by omega
          clear hlt i1
          go_wp2_with (fail)
          go_loopw [12, 13, 14, 15, 16, 17] (fun v _a _b _c _d _e wr => ∃ d : Nat, d ≤ 4 ∧ v = .int .i64 d ∧ Two w2 M L Z b y R F B wr) (fun v _ _ _ _ _ _ => 4 - (RowKit.intOf v).toNat)
          case atStart => exact ⟨0, by omega, rfl, HT1.out⟩
          case round =>
            obtain ⟨d, d1, rfl, htw⟩ := hrel
            have HT2 := Lib.hid htw
            clear htw
            by_cases hd : d < 4
            · have hd4 : decide ((d : Int) < 4) = true := decide_eq_true (by omega)
              go_wp2_with (fail)
              go_loopw [13, 14, 15, 16, 17] (fun v _a _b _c _d wr => ∃ s : Nat, s ≤ 41 ∧ v = .int .i64 s ∧ Two w2 M L Z b y R F B wr) (fun v _ _ _ _ _ => 41 - (RowKit.intOf v).toNat)
              case atStart => exact ⟨0, by omega, rfl, HT2.out⟩
              case round =>
                obtain ⟨s, s1, rfl, htw⟩ := hrel
                have q1 : wr.cell? ⟨Z.p, 1, none⟩ = some (.int .i64 41) := by
                  obtain ⟨fl, fc, hx⟩ := htw.rf
                  have := hx.c1
                  rw [← htw.rel.S, HRS.out] at this
                  exact this
                have HT3 := Lib.hid htw
                clear htw
                by_cases hs : s < 41
                · have hrr := st_rread (d : Int) (s : Int) HT3.out.st
                  obtain ⟨zs, hzs⟩ : ∃ z, z = R.rdV d s := ⟨_, rfl⟩
                  obtain ⟨er, her⟩ : ∃ z, z = R.rdE d s := ⟨_, rfl⟩
                  have HLE : Hid (zs.length ≤ 64) := by rw [hzs]; exact rdV_len HT3.out.st.rk d s
                  rw [← hzs, ← her] at hrr
                  have HVE : Hid (zs = F.rdV d s ∧ er = F.rdE d s) := ⟨by rw [hzs, HT3.out.rel.rdV], by rw [her, HT3.out.rel.rdE]⟩
                  clear hzs her
                  go_wp2_with (fail)
                  refine hrr.mono ?_
                  rintro e10 w12 ⟨a1, c1, rfl, hp1, _, hst1, hb1⟩
                  have HT4 := Lib.hid (HT3.out.next hb1)
                  have HP1 := Lib.hid hp1
                  have hrf := rreadP_all (d : Int) (s : Int) HT4.out.rf
                  rw [← HVE.out.1, ← HVE.out.2] at hrf
                  clear hrr hp1 hst1 hb1 q1
                  go_wp2_with (fail)
                  refine hrf.mono ?_
                  rintro e11 w13 ⟨v2, rfl, ho2, hb2⟩
                  have HT5 := Lib.hid (HT4.out.next hb2)
                  obtain ⟨a2, c2, rfl, hp2, _⟩ := ho2.pin
                  have hp1' := HP1.out.next hb2
                  have hsmb := same_any a1 a2 zs.length c1 zs.length c2 _ _ w13 hp1'.bys hp2.bys (by have := HLE.out; omega)
                  rw [sameB_true rfl] at hsmb
                  obtain ⟨nz, hnz⟩ : ∃ n, n = zs.length := ⟨_, rfl⟩
                  rw [← hnz] at hsmb ⊢
                  clear hrf ho2 hb2 hp1' hp2 hnz
                  go_wp2_with (go_at_call 15; refine hsmb.mono ?_; clear hsmb; rintro e12 w14 ⟨rfl, nn, rfl⟩; have HT6 := Lib.hid (HT5.out.drewN nn))
                  go_roundw
                  case rel => exact ⟨s + 1, by omega, by go_num, HT6.out⟩
                  case measure => simp [RowKit.intOf]; omega
                · obtain rfl : s = 41 := by omega
                  clear hs
                  go_wp2_with (fail)
                  go_roundw
                  case rel => exact ⟨d + 1, by omega, by go_num, HT3.out⟩
                  case measure => simp [RowKit.intOf]; omega
            · obtain rfl : d = 4 := by omega
              have HBX := Lib.hid (HB2.out.trans (HT2.out.st.bel.mono HB2.out.size))
              clear hd
              go_wp2_with (fail)
              go_ret
              exact ⟨rfl, HBX.out⟩

end Go.Proofs.YtciddoeeiamndaaGreat
