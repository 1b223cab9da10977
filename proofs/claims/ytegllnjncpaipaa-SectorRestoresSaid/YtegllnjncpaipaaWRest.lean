/-
  SectorRestores, walked.
-/
import Derived.Test.YtegllnjncpaipaaRest4
import Derived.Test.YtegllnjncpaipaaWOther
import Derived.Test.YtegllnjncpaipaaWPar
namespace Go.Proofs.Ytegllnjncpaipaa
open Go.RowKit

/-- The row of sectors that the first loop makes. -/
def RsRel (q : Int) (l : Nat → Pc) (w0 : World) (n : Nat) (u v : Value) (w : World) : Prop :=
  ∃ (k : Nat) (f : Nat → Pc), k ≤ n ∧ v = .int .i64 k ∧ OwnR w w0.heap.size u k f ∧ (∀ i, i < k → (l i).zs.length ≤ 56 ∧ (f i).zs = encL q (l i).zs.length i (l i).zs) ∧ Below w0.heap.size w0 w

/-- The row of all but one that the second loop makes. -/
def Rs2Rel (F : Nat → Pc) (s k : Nat) (w0 : World) (u v : Value) (w : World) : Prop :=
  ∃ i r : Nat, i ≤ k + 1 ∧ r = (if i ≤ s then i else i - 1) ∧ v = .int .i64 i ∧ OwnR w w0.heap.size u r (skip F s) ∧ Below w0.heap.size w0 w
theorem OwnR.congr {w : World} {B : Nat} {v : Value} {n : Nat} {f g : Nat → Pc} (h : OwnR w B v n f) (hfg : ∀ i, i < n → f i = g i) : OwnR w B v n g := by
  have hv : vals g n = vals f n := by
    unfold vals
    apply List.map_congr_left
    intro i hi
    rw [hfg i (List.mem_range.1 hi)]
  exact ⟨by rw [hv]; exact h.row, fun i hi => by rw [← hfg i hi]; exact h.each i hi, fun i hi => by rw [← hfg i hi]; exact h.apart i hi⟩

set_option maxHeartbeats 8000000 in
theorem walk_rest_in (q t : Int) (a : Option Addr) (n c : Nat) (l : Nat → Pc) (w : World) (h : Rws w a n l) (h1 : 0 ≤ q) (h2 : q < 4294967296) (h3 : 1 ≤ n) (h4 : n ≤ 16) :
    Calls Try.prog 6 #[.int .i64 q, .slice a n c, .int .i64 t] w fun e w' => e = .returned (.bool true) ∧ Below w.heap.size w w' := by
  have e1 : decide ((n : Int) < 1) = false := decide_eq_false (by omega)
  have e2 : decide ((16 : Int) < (n : Int)) = false := decide_eq_false (by omega)
  have e3 : decide (q < 0) = false := decide_eq_false (by omega)
  have e4 : decide (4294967296 ≤ q) = false := decide_eq_false (by omega)
  have e5 : decide (n < 1) = false := decide_eq_false (by omega)
  have e6 : decide (16 < n) = false := decide_eq_false (by omega)
  go_enter Try.func6, Try.ntmps6
  go_wp2_with (fail)
  refine (alive_any w).mono ?_
  rintro e w1 ⟨rfl, hB1⟩
  go_wp2_with (fail)
  clear e1 e2 e3 e4 e5 e6
  go_loopw [7, 8, 9, 10] (fun u v _b _ok wr => RsRel q l w n u v wr) (fun _ v _ _ _ => n - (intOf v).toNat)
  case atStart => exact ⟨0, fun _ => default, by omega, rfl, ownR_low hB1, (fun i hi => by omega), hB1.alloc hB1.size _⟩
  case round =>
    obtain ⟨k, f, hk, rfl, ho, hf, hb⟩ := hrel
    have HF := Lib.hid hf
    clear hf hB1
    have hsz := hb.size
    obtain ⟨ra, rc, rfl, _, _, _, hlo⟩ := ho.rws
    have HLO := Lib.hid hlo
    clear hlo
    by_cases hlt : k < n
    · obtain ⟨b, off, x, m, d, zs, rfl, hbl, hc, hp, hz, hm⟩ := (h.next hb).at hlt
      have HZ := Lib.hid hz
      have hpc := hp.cap
      have hpm := hp.max
      have i0 : (0 : Int) ≤ (k : Int) := by omega
      have i1 : (k : Int) < (n : Int) := by omega
      clear h hz hm
      by_cases hm56 : m ≤ 56
      · have e1 : ¬ (56 : Int) < (m : Int) := by omega
        have he := enc_fit (q := q) (o := m) (i := k) (x := zs) (by omega) (by omega) (by omega) (by omega) (by omega) (by omega) (by rw [hp.len]; exact hm56)
        have hl : (encL q m k zs).length = 64 := (encO_ok he).len
        have henc := enc_n q m k x m d zs wr.drew (hp.drewN 1).bys
        rw [he] at henc
        have HP := Lib.hid hp
        clear hp
        go_wp2_with (fail)
        refine wp_region_held_drew (S := (fun w' => w'.cell? ⟨b, off + k, none⟩ = some (.slice x m d))) (by kernel_rfl) ?_ (fun hHeld => ?_)
        · exact hc
        refine wpAnyH_take (i := 0) (v := ?_) rfl (by kernel_rfl) (by kernel_rfl) (by kernel_rfl) (fun _ _ _ h => h) (Or.inl ⟨by rfl, fun w hSw => ?_⟩) (by assumption) ?_
        rotate_left
        · (try dsimp only at hSw); go_simp; try with_reducible rfl
        simp only [Act.put, List.setIfInBounds_toArray, List.set_cons_zero, List.set_cons_succ, List.getElem_toArray, List.getElem_cons_zero]
        refine wpAnyH_take (i := 1) (v := ?_) rfl (by kernel_rfl) (by kernel_rfl) (by kernel_rfl) (fun _ _ _ h => h) (Or.inl ⟨by rfl, fun w hSw => ?_⟩) (by assumption) ?_
        rotate_left
        · (try dsimp only at hSw); go_simp; try with_reducible rfl
        simp only [Act.put, List.setIfInBounds_toArray, List.set_cons_zero, List.set_cons_succ, List.getElem_toArray, List.getElem_cons_succ, List.getElem_cons_zero]
        refine wpAnyH_take (i := 2) (v := ?_) rfl (by kernel_rfl) (by kernel_rfl) (by kernel_rfl) (fun _ _ _ h => h) (Or.inl ⟨by rfl, fun w hSw => ?_⟩) (by assumption) ?_
        rotate_left
        · (try dsimp only at hSw); go_simp; try with_reducible rfl
        simp only [Act.put, List.setIfInBounds_toArray, List.set_cons_zero, List.set_cons_succ, List.getElem_toArray, List.getElem_cons_succ, List.getElem_cons_zero]
        refine wpAnyH_take (i := 3) (v := ?_) rfl (by kernel_rfl) (by kernel_rfl) (by kernel_rfl) (fun _ _ _ h => h) (Or.inl ⟨by rfl, fun w hSw => ?_⟩) (by assumption) ?_
        rotate_left
        · (try dsimp only at hSw); go_simp; try with_reducible rfl
        simp only [Act.put, List.setIfInBounds_toArray, List.set_cons_zero, List.set_cons_succ, List.getElem_toArray, List.getElem_cons_succ, List.getElem_cons_zero]
        refine wpAnyH_take (i := 4) (v := ?_) rfl (by kernel_rfl) (by kernel_rfl) (by kernel_rfl) (fun _ _ _ h => h) (Or.inl ⟨by rfl, fun w hSw => ?_⟩) (by assumption) ?_
        rotate_left
        · (try dsimp only at hSw); go_simp; try with_reducible rfl
        simp only [Act.put, List.setIfInBounds_toArray, List.set_cons_zero, List.set_cons_succ, List.getElem_toArray, List.getElem_cons_succ, List.getElem_cons_zero]
        refine wpAnyH_take (i := 5) (v := ?_) rfl (by kernel_rfl) (by kernel_rfl) (by kernel_rfl) (fun _ _ _ h => h) (Or.inl ⟨by rfl, fun w hSw => ?_⟩) (by assumption) ?_
        rotate_left
        · (try dsimp only at hSw); go_simp; try with_reducible rfl
        simp only [Act.put, List.setIfInBounds_toArray, List.set_cons_zero, List.set_cons_succ, List.getElem_toArray, List.getElem_cons_succ, List.getElem_cons_zero]
        refine wpAnyH_take (i := 6) (v := ?_) rfl (by kernel_rfl) (by kernel_rfl) (by kernel_rfl) (fun _ _ _ h => h) (Or.inl ⟨by rfl, fun w hSw => ?_⟩) (by assumption) ?_
        rotate_left
        · (try dsimp only at hSw); go_simp; try with_reducible rfl
        simp only [Act.put, List.setIfInBounds_toArray, List.set_cons_zero, List.set_cons_succ, List.getElem_toArray, List.getElem_cons_succ, List.getElem_cons_zero]
        refine wpAnyH_take (i := 7) (v := ?_) rfl (by kernel_rfl) (by kernel_rfl) (by kernel_rfl) (fun _ _ _ h => h) (Or.inl ⟨by rfl, fun w hSw => ?_⟩) (by assumption) ?_
        rotate_left
        · (try dsimp only at hSw); go_simp; try with_reducible rfl
        simp only [Act.put, List.setIfInBounds_toArray, List.set_cons_zero, List.set_cons_succ, List.getElem_toArray, List.getElem_cons_succ, List.getElem_cons_zero]
        refine wpAnyH_take (i := 8) (v := ?_) rfl (by kernel_rfl) (by kernel_rfl) (by kernel_rfl) (fun _ _ _ h => h) (Or.inl ⟨by rfl, fun w hSw => ?_⟩) (by assumption) ?_
        rotate_left
        · (try dsimp only at hSw); go_simp; try with_reducible rfl
        simp only [Act.put, List.setIfInBounds_toArray, List.set_cons_zero, List.set_cons_succ, List.getElem_toArray, List.getElem_cons_succ, List.getElem_cons_zero]
        refine wpAnyH_take (i := 9) (v := ?_) rfl (by kernel_rfl) (by kernel_rfl) (by kernel_rfl) (fun _ _ _ h => h) (Or.inl ⟨by rfl, fun w hSw => ?_⟩) (by assumption) ?_
        rotate_left
        · (try dsimp only at hSw); go_simp; try with_reducible rfl
        simp only [Act.put, List.setIfInBounds_toArray, List.set_cons_zero, List.set_cons_succ, List.getElem_toArray, List.getElem_cons_succ, List.getElem_cons_zero]
        refine wpAnyH_take (i := 10) (v := ?_) rfl (by kernel_rfl) (by kernel_rfl) (by kernel_rfl) (fun _ _ _ h => h) (Or.inl ⟨by rfl, fun w hSw => ?_⟩) (by assumption) ?_
        rotate_left
        · (try dsimp only at hSw); go_simp; try with_reducible rfl
        simp only [Act.put, List.setIfInBounds_toArray, List.set_cons_zero, List.set_cons_succ, List.getElem_toArray, List.getElem_cons_succ, List.getElem_cons_zero]
        refine wpAnyH_take (i := 11) (v := ?_) rfl (by kernel_rfl) (by kernel_rfl) (by kernel_rfl) (fun _ _ _ h => h) (Or.inl ⟨by rfl, fun w hSw => ?_⟩) (by assumption) ?_
        rotate_left
        · (try dsimp only at hSw); go_simp; try with_reducible rfl
        simp only [Act.put, List.setIfInBounds_toArray, List.set_cons_zero, List.set_cons_succ, List.getElem_toArray, List.getElem_cons_succ, List.getElem_cons_zero]
        refine wpAnyH_ready (rs := [12]) (by kernel_rfl) (by simp) ?_
        refine AllReadyH.cons rfl (fun K hK => ?_) AllReadyH.nil
        simp only [List.getElem_toArray, List.getElem_cons_succ, List.getElem_cons_zero]
        go_simp
        refine henc.mono ?_
        rintro e w2 ⟨a2, n2, c2, rfl, hp2, hnew, hb2⟩
        obtain rfl : n2 = 64 := by rw [← hp2.len, hl]
        have hc2 := (hb2.cell (p := ⟨b, off + k, none⟩) hbl).trans hc
        go_wp2_with (fail)
        refine hK.out _ _ hc2 (fun hHeld => ?_)
        clear hK K
        refine wpAnyH_take (i := 13) (v := ?_) rfl (by kernel_rfl) (by kernel_rfl) (by kernel_rfl) (fun _ _ _ h => h) (Or.inl ⟨by rfl, fun w hSw => ?_⟩) (by assumption) ?_
        rotate_left
        · (try dsimp only at hSw); go_simp; try with_reducible rfl
        simp only [Act.put, List.setIfInBounds_toArray, List.set_cons_zero, List.set_cons_succ, List.getElem_toArray, List.getElem_cons_succ, List.getElem_cons_zero]
        refine wpAnyH_take (i := 14) (v := ?_) rfl (by kernel_rfl) (by kernel_rfl) (by kernel_rfl) (fun _ _ _ h => h) (Or.inl ⟨by rfl, fun w hSw => ?_⟩) (by assumption) ?_
        rotate_left
        · (try dsimp only at hSw); go_simp; try with_reducible rfl
        simp only [Act.put, List.setIfInBounds_toArray, List.set_cons_zero, List.set_cons_succ, List.getElem_toArray, List.getElem_cons_succ, List.getElem_cons_zero]
        refine wpAnyH_take (i := 15) (v := ?_) rfl (by kernel_rfl) (by kernel_rfl) (by kernel_rfl) (fun _ _ _ h => h) (Or.inl ⟨by rfl, fun w hSw => ?_⟩) (by assumption) ?_
        rotate_left
        · (try dsimp only at hSw); go_simp; try with_reducible rfl
        simp only [Act.put, List.setIfInBounds_toArray, List.set_cons_zero, List.set_cons_succ, List.getElem_toArray, List.getElem_cons_succ, List.getElem_cons_zero]
        refine wpAnyH_take (i := 16) (v := ?_) rfl (by kernel_rfl) (by kernel_rfl) (by kernel_rfl) (fun _ _ _ h => h) (Or.inl ⟨by rfl, fun w hSw => ?_⟩) (by assumption) ?_
        rotate_left
        · (try dsimp only at hSw); go_simp; try with_reducible rfl
        simp only [Act.put, List.setIfInBounds_toArray, List.set_cons_zero, List.set_cons_succ, List.getElem_toArray, List.getElem_cons_succ, List.getElem_cons_zero]
        refine wpAnyH_take (i := 17) (v := ?_) rfl (by kernel_rfl) (by kernel_rfl) (by kernel_rfl) (fun _ _ _ h => h) (Or.inl ⟨by rfl, fun w hSw => ?_⟩) (by assumption) ?_
        rotate_left
        · (try dsimp only at hSw); go_simp; try with_reducible rfl
        simp only [Act.put, List.setIfInBounds_toArray, List.set_cons_zero, List.set_cons_succ, List.getElem_toArray, List.getElem_cons_succ, List.getElem_cons_zero]
        refine wpAnyH_done (by kernel_rfl) ?_ _
        have hB2 : Below w.heap.size w w2 := (below_drewN hb 1).trans (hb2.mono hsz)
        have hs2 := hB2.size
        have hor := ((ho.next (below_drewN (Below.refl _ _) 1)).next hb2).next ((Below.refl _ _).alloc (Nat.le_refl _) (.cells #[.slice a2 64 c2] 24))
        have HAP := Lib.hid (show (64 : Nat) = 0 ∨ ∀ y, a2 = some y → some y.block ≠ (Value.slice ra k rc).ownBlock from .inr (apart_new (S := wr.heap.size) (fun x hx => (HLO.out x hx).2) (fun x hx => hnew x hx)))
        clear ho hb hb2 hnew henc he hl hc hc2
        go_wp2_with (at_builtin; go_must (refine wpList_apR rfl (.tmp 66) (.tmp 68) rfl w.heap.size _ k f rfl hor w2.heap.size rfl a2 64 c2 _ (by simp) (hp2.alloc _) HAP.out (by omega) (by simp; omega) w (hB2.alloc hs2 _) ?_); intro v3 w3 ho3 hb3 _ _)
        go_roundw
        case rel => exact ⟨k + 1, _, by omega, by go_num, ho3, (fun i hi => by
          rcases Nat.lt_or_ge i k with h1 | h1
          · rw [snoc_old h1]; exact HF.out i h1
          · obtain rfl : i = k := by omega
            rw [snoc_new, HZ.out]
            exact ⟨by rw [HP.out.len]; exact hm56, by rw [HP.out.len]⟩), hb3⟩
        case measure => simp [intOf]; omega
      · have e1 : (56 : Int) < (m : Int) := by omega
        clear hp
        go_wp2_with (fail)
        go_ret
        exact ⟨rfl, hb⟩
    · obtain rfl : k = n := by omega
      clear h
      have hfl : ∀ i : Nat, i < k → encO q (l i).zs.length i (l i).zs = true := fun i hi => enc_fit h1 h2 (by omega) (by have := (HF.out i hi).1; omega) (by omega) (by omega) (HF.out i hi).1
      have hf64 : ∀ i : Nat, i < k → (f i).zs.length = 64 ∧ (f i).zs.take 4 = digs 4 q := fun i hi => by
        rw [(HF.out i hi).2]
        exact ⟨(encO_ok (hfl i hi)).len, enc_seq (hfl i hi)⟩
      have hup : oneUpto f k = true := oneUpto_of fun i hi => ⟨(hf64 i hi).1, by rw [(hf64 i hi).2, (hf64 0 (by omega)).2]⟩
      have hone : oneSeq f k = true := by rw [oneSeq, hup]; simp; omega
      obtain ⟨g, cg, e, hr, hnc, hcm, hBg⟩ := ho.rb (by omega)
      cases e
      have q1 := par_n (some ⟨g, 0, none⟩) k rc f wr hr.rws (by omega)
      rw [hone] at q1
      have HPL := Lib.hid (show parL f k = (f 0).zs.take 4 ++ sumP f k by rw [parL, hone]; rfl)
      have HFL := Lib.hid hf64
      have HUP := Lib.hid hup
      have HSM := Lib.hid (hr.rws.small)
      clear hfl hf64 hup hone
      go_wp2_with (fail)
      refine q1.mono ?_
      rintro e w2 ⟨a2, n2, c2, rfl, hp2, hnew, hb2⟩
      have hpl : (parL f k).length = 64 := by
        obtain ⟨m, rfl⟩ : ∃ m, k = m + 1 := ⟨k - 1, by omega⟩
        rw [HPL.out, List.length_append, List.length_take, (HFL.out 0 (by omega)).1, ← sumR_sumP HSM.out (Nat.le_refl _) HUP.out, sumR_len (Nat.le_refl _) HUP.out]
        rfl
      obtain rfl : n2 = 64 := by rw [← hp2.len, hpl]
      have hB2 : Below w.heap.size w w2 := hb.trans (hb2.mono hsz)
      have hs2 := hB2.size
      have hor := (ho.next hb2).next ((Below.refl _ _).alloc (Nat.le_refl _) (.cells #[.slice a2 64 c2] 24))
      have HAP := Lib.hid (show (64 : Nat) = 0 ∨ ∀ y, a2 = some y → some y.block ≠ (Value.slice (some ⟨g, 0, none⟩) k rc).ownBlock from .inr (apart_new (S := wr.heap.size) (fun x hx => (HLO.out x hx).2) (fun x hx => hnew x hx)))
      have HPP := Lib.hid hpl
      clear q1 hb2 hnew hr ho hb hpl
      go_wp2_with (at_builtin; go_must (refine wpList_apR rfl (.tmp 77) (.tmp 79) rfl w.heap.size _ k f rfl hor w2.heap.size rfl a2 64 c2 _ (by simp) (hp2.alloc _) HAP.out (by omega) (by simp; omega) w (hB2.alloc hs2 _) ?_); intro v3 w3 ho3 hb3 _ _; obtain ⟨g3, c3, hv3, hr3, hc3, hc3m, hBg3⟩ := ho3.rb (by omega); subst hv3; have hk1 : ((k + 1 : Nat) : Int) ≠ 0 := by omega)
      obtain ⟨s, hs, hval⟩ := and_rem t (k + 1) (by omega)
      have hval' : (bits .and .i64 t 1023).tmod ((k : Int) + 1) = (s : Int) := by simpa using hval
      rw [hval']
      obtain ⟨F, hF⟩ : ∃ F, F = snoc f k ⟨a2, 64, c2, parL f k⟩ := ⟨_, rfl⟩
      rw [← hF] at hr3
      have HFk := Lib.hid hF
      clear hval hval' ho3 hB2 hor hp2 hF hk1
      have hs3 := hb3.size
      have HR := Lib.hid hr3
      clear hr3
      go_loopw [14, 15] (fun u v wr => Rs2Rel F s k w3 u v wr) (fun _ v _ => k + 1 - (intOf v).toNat)
      case atStart => exact ⟨0, 0, by omega, by simp, rfl, ownR_none w3 _ (Nat.le_refl _) _, (Below.refl _ _).alloc (Nat.le_refl _) _⟩
      case round =>
        obtain ⟨i, r, hi, hr, rfl, ho, hb⟩ := hrel
        have HRI := Lib.hid hr
        have hr16 : r ≤ 17 := by rw [hr]; split <;> omega
        clear hr
        have hrb := HR.out.next hb
        obtain ⟨ra4, rc4, rfl, hrw4, _⟩ := ho.rws
        have hsz := hb.size
        by_cases hlt : i < k + 1
        · by_cases his : i = s
          · subst his
            have hne : ((i : Int) != (i : Int)) = false := by simp
            go_wp2_with (fail)
            go_roundw
            case rel => exact ⟨i + 1, r, by omega, by rw [HRI.out]; simp, by go_num, ho, hb⟩
            case measure => simp [intOf]; omega
          · obtain ⟨x, m, d, zs, hFi⟩ : ∃ x m d zs, F i = ⟨x, m, d, zs⟩ := ⟨_, _, _, _, rfl⟩
            have gc : wr.cell? ⟨g3, i, none⟩ = some (.slice x m d) := by have := hrb.cell i hlt; rwa [hFi] at this
            have hp : Pin wr x m d zs := by have := hrb.each i hlt; rwa [hFi] at this
            have hp3 : Pin w3 x m d zs := by have := HR.out.each i hlt; rwa [hFi] at this
            have hap : m = 0 ∨ ∀ y, x = some y → some y.block ≠ (Value.slice ra4 r rc4).ownBlock := by
              rcases hp3.bys.place with h0 | ⟨b, off, e, hbl, _⟩
              · exact .inl h0
              · refine .inr fun y hy e2 => ?_
                rw [e] at hy
                cases hy
                have := (ho.row.lt b e2.symm).1
                omega
            have HAP := Lib.hid hap
            have HFi := Lib.hid hFi
            have hne : ((i : Int) != (s : Int)) = true := by simp; omega
            have hne2 : (i != s) = true := by simp; omega
            have i0 : (0 : Int) ≤ (i : Int) := by omega
            have i1 : (i : Int) < (k : Int) + 1 := by omega
            have hor := ho.next ((Below.refl _ _).alloc (Nat.le_refl _) (.cells #[.slice x m d] 24))
            clear hap hFi hp3 hrb ho
            go_wp2_with (at_builtin; go_must (refine wpList_apR rfl (.tmp 96) (.tmp 101) rfl w3.heap.size _ r (skip F s) rfl hor wr.heap.size rfl x m d zs (by simp) (hp.alloc _) HAP.out (by omega) (by simp; omega) w3 (hb.alloc hsz _) ?_); intro v4 w4 ho4 hb4 _ _)
            go_roundw
            case rel => exact ⟨i + 1, r + 1, by omega, by rw [HRI.out]; split <;> split <;> omega, by go_num, ho4.congr (fun j hj => by
              rcases Nat.lt_or_ge j r with h1 | h1
              · exact snoc_old h1
              · obtain rfl : j = r := by omega
                rw [snoc_new, ← HFi.out, skip, HRI.out]
                by_cases hle : i ≤ s
                · rw [if_pos hle, if_pos (by omega)]
                · rw [if_neg hle, if_neg (by omega)]; congr 1; omega), hb4⟩
            case measure => simp [intOf]; omega
        · obtain rfl : i = k + 1 := by omega
          have hrk : r = k := by rw [HRI.out, if_neg (by omega)]; omega
          subst hrk
          have hF4 : ∀ i, i ≤ r → (F i).zs.length = 64 ∧ (F i).zs.take 4 = digs 4 q ∧ AllB (F i).zs := fun i hi => by
            rw [HFk.out]
            rcases Nat.lt_or_ge i r with h5 | h5
            · rw [snoc_old h5]; exact ⟨(HFL.out i h5).1, (HFL.out i h5).2, HSM.out i h5⟩
            · obtain rfl : i = r := by omega
              rw [snoc_new]
              have hb0 := (HSM.out 0 (by omega)).take 4
              have h40 : ((f 0).zs.take 4).length = 4 := by rw [List.length_take, (HFL.out 0 (by omega)).1]; rfl
              refine ⟨HPP.out, ?_, ?_⟩
              · show (parL f i).take 4 = _
                rw [HPL.out, List.take_left' h40]; exact (HFL.out 0 (by omega)).2
              · have := (HR.out.each i (by omega)).bys.small
                rwa [HFk.out, snoc_new] at this
          have hp : (F r).zs = (F 0).zs.take 4 ++ sumP F r := by
            have hsame : SameZ F f r := fun i hi => by rw [HFk.out, snoc_old hi]
            rw [sumP_same hsame (Nat.le_refl _), hsame 0 (by omega), ← HPL.out, HFk.out, snoc_new]
          obtain ⟨ho1, hpar⟩ := restored h3 (by omega : s ≤ r) (fun i hi => (hF4 i hi).2.2) (fun i hi => (hF4 i hi).1) (fun i hi => by rw [(hF4 i hi).2.1, (hF4 0 (by omega)).2.1]) hp
          have q5 := restore_any ra4 r rc4 (skip F s) wr hrw4 (by omega)
          rw [ho1, hpar] at q5
          have hsl := (hF4 s (by omega)).1
          have HSL := Lib.hid hsl
          obtain ⟨x, m, d, zs, hFs⟩ : ∃ x m d zs, F s = ⟨x, m, d, zs⟩ := ⟨_, _, _, _, rfl⟩
          have HFs := Lib.hid hFs
          clear hF4 hp ho1 hpar hsl hFs hrw4 ho
          go_wp2_with (fail)
          refine q5.mono ?_
          rintro e w6 ⟨a6, n6, c6, rfl, hp6, hb6⟩
          have hrb := hrb.next hb6
          have gc : w6.cell? ⟨g3, s, none⟩ = some (.slice x m d) := by have := hrb.cell s hs; rwa [HFs.out] at this
          have hpx : Pin w6 x m d zs := by have := hrb.each s hs; rwa [HFs.out] at this
          have hzs : (F s).zs = zs := by rw [HFs.out]
          obtain rfl : n6 = 64 := by rw [← hp6.len, HSL.out]
          obtain rfl : m = 64 := by rw [← hpx.len, ← hzs, HSL.out]
          have hB6 : Below w.heap.size w w6 := (hb3.trans (hb.mono hs3)).trans (hb6.mono (Nat.le_trans hs3 hsz))
          have i0 : (0 : Int) ≤ (s : Int) := by omega
          have i1 : (s : Int) < (r : Int) + 1 := by omega
          have hsame := same_eq a6 x 64 c6 d _ _ w6 hp6.bys hpx.bys (by omega) hzs
          clear hp6 hpx hzs hrb q5 hb6 hb
          go_wp2_with (fail)
          refine hsame.mono ?_
          rintro e w7 ⟨rfl, hb7⟩
          go_wp2_with (fail)
          go_ret
          exact ⟨rfl, hB6.trans (hb7.mono hB6.size)⟩

set_option maxHeartbeats 2000000 in
theorem walk_rest (q t : Int) (a : Option Addr) (n c : Nat) (l : Nat → Pc) (w : World) (h : Rws w a n l) :
    Calls Try.prog 6 #[.int .i64 q, .slice a n c, .int .i64 t] w fun e w' => e = .returned (.bool true) ∧ Below w.heap.size w w' := by
  by_cases h0 : n < 1
  · have d0 : decide (n < 1) = true := decide_eq_true h0
    have k0 : decide ((n : Int) < 1) = true := decide_eq_true (by omega)
    clear h h0
    go_enter Try.func6, Try.ntmps6
    go_wp2_with (fail)
    refine (alive_any w).mono ?_
    rintro e w1 ⟨rfl, hB1⟩
    go_wp2_with (fail)
    go_ret
    exact ⟨rfl, hB1⟩
  have d0 : decide (n < 1) = false := decide_eq_false h0
  have k0 : decide ((n : Int) < 1) = false := decide_eq_false (by omega)
  by_cases h1 : 16 < n
  · have d1 : decide (16 < n) = true := decide_eq_true h1
    have k1 : decide ((16 : Int) < (n : Int)) = true := decide_eq_true (by omega)
    clear h h0 h1
    go_enter Try.func6, Try.ntmps6
    go_wp2_with (fail)
    refine (alive_any w).mono ?_
    rintro e w1 ⟨rfl, hB1⟩
    go_wp2_with (fail)
    go_ret
    exact ⟨rfl, hB1⟩
  have d1 : decide (16 < n) = false := decide_eq_false h1
  have k1 : decide ((16 : Int) < (n : Int)) = false := decide_eq_false (by omega)
  by_cases h2 : q < 0
  · have d2 : decide (q < 0) = true := decide_eq_true h2
    clear h h0 h1 h2
    go_enter Try.func6, Try.ntmps6
    go_wp2_with (fail)
    refine (alive_any w).mono ?_
    rintro e w1 ⟨rfl, hB1⟩
    go_wp2_with (fail)
    go_ret
    exact ⟨rfl, hB1⟩
  have d2 : decide (q < 0) = false := decide_eq_false h2
  by_cases h3 : 4294967296 ≤ q
  · have d3 : decide (4294967296 ≤ q) = true := decide_eq_true h3
    clear h h0 h1 h2 h3
    go_enter Try.func6, Try.ntmps6
    go_wp2_with (fail)
    refine (alive_any w).mono ?_
    rintro e w1 ⟨rfl, hB1⟩
    go_wp2_with (fail)
    go_ret
    exact ⟨rfl, hB1⟩
  exact walk_rest_in q t a n c l w h (by omega) (by omega) (by omega) (by omega)

end Go.Proofs.Ytegllnjncpaipaa
