/-
  The document's Encode, by contract.
-/
import Derived.Test.YtiedapiepklhlaaEo
namespace Go.Proofs.Ytiedapiepklhlaa
open Go.RowKit
set_option linter.unusedVariables false
set_option linter.unusedSimpArgs false

set_option maxHeartbeats 4000000 in
theorem rencode_any (a : Option Addr) (n c : Nat) (L : List En) (w : World) (h : Ens w a n L) (hn : n ≤ 1000000) :
    Calls Try.prog 12 #[.slice a n c] w (EncPost w (encO L) (rgt L)) := by
  have hl := h.len
  subst hl
  have har := rRight_any a L.length c L w h (by omega)
  have HH := Lib.hid h
  clear h
  cases hr : rgt L with
  | false =>
    rw [hr] at har
    have he := Lib.hid (show encO L = [] by unfold encO; rw [hr]; rfl)
    clear hr
    go_enter Try.func12, Try.ntmps12
    go_wp2_with (fail)
    refine har.mono ?_
    rintro e w1 ⟨rfl, hb1⟩
    have HB1 := Lib.hid hb1
    clear hb1 har
    go_wp2_with (fail)
    go_ret2
    exact ⟨_, rfl, by rw [he.out]; exact own_nil8 _ _, HB1.out⟩
  | true =>
    rw [hr] at har
    obtain ⟨h64, hall, _⟩ := rgt_all hr
    have he := Lib.hid (show encO L = encL L by unfold encO; rw [hr]; rfl)
    have HA := Lib.hid hall
    clear hr hall
    go_enter Try.func12, Try.ntmps12
    go_wp2_with (fail)
    refine har.mono ?_
    rintro e w1 ⟨rfl, hb1⟩
    have HB1 := Lib.hid hb1
    clear hb1 har
    go_wp2_with (fail)
    go_loopw [4, 5] (fun v4 v wr => ∃ (k m : Nat) (zs : List Int), k ≤ L.length ∧ v = .int .i64 k ∧ encL (L.take k) = zs ∧ Own wr w.heap.size v4 m zs ∧ Below w.heap.size w wr) (fun _ v _ => L.length - (RowKit.intOf v).toNat)
    case atStart => exact ⟨0, 0, [], by omega, rfl, rfl, own_none w1 _ HB1.out.size, HB1.out.alloc HB1.out.size _⟩
    case round =>
      obtain ⟨k, m, zs, hk, rfl, hzs, hO, hB⟩ := hrel
      have HB := Lib.hid hB
      by_cases hlt : k < L.length
      · have k1 : (k : Int) < (L.length : Int) := by omega
        have k0 : (0 : Int) ≤ (k : Int) := by omega
        obtain ⟨b, off, rfl, hbw, hr1, hr2⟩ := HH.out.at hlt
        have hd1 := (hB.cell (p := ⟨b, off + k * 2, none⟩) hbw).trans hr1
        have hd2 := (hB.cell (p := ⟨b, off + k * 2 + 1, none⟩) hbw).trans hr2
        have hbl : b < wr.heap.size := Nat.lt_of_lt_of_le hbw hB.size
        obtain ⟨va, vc, rfl, _⟩ := hO.form
        have hm := hO.len
        have hle := encL_len (all_take HA.out k)
        rw [List.length_take, hzs, hm] at hle
        have hst := encL_step hlt
        obtain ⟨hok1, hok2, hok3, hok4, hok5⟩ := okE_all (all_at HA.out hlt)
        obtain ⟨s, hs⟩ : ∃ s, (eat L k).s = s := ⟨_, rfl⟩
        obtain ⟨i, hi⟩ : ∃ i, (eat L k).i = i := ⟨_, rfl⟩
        have hen : encE (eat L k) = [i, 0, (s.size : Int)] ++ bI s.data.toList := by unfold encE; rw [hs, hi]
        rw [hs] at hd1 hr1 hok4 hok5
        rw [hi] at hd2 hr2 hok2 hok3
        have HR := Lib.hid (And.intro hbw (And.intro hr1 hr2))
        clear hbw hr1 hr2
        rw [hen, hzs] at hst
        have HST := Lib.hid hst
        have hu1 : IntKind.u8.wrap i = i := by rw [IntKind.wrap_u8]; omega
        have hu2 : IntKind.u8.wrap ((s.size : Nat) : Int) = (s.size : Int) := by rw [IntKind.wrap_u8]; omega
        have hws := HB.out.size
        have HO0 := Lib.hid hO
        have q1 : wr.drew.cell? ⟨b, off + k * 2, none⟩ = some (.string s) := hd1
        have q2 : wr.drew.cell? ⟨b, off + k * 2 + 1, none⟩ = some (.int .i64 i) := hd2
        have HBL := Lib.hid hbl
        clear hO hB hst hen hs hi hm hok1 hd1 hd2 hbl hzs
        go_wp2_with (fail)
        refine wp_region_held_drew (S := (fun w' => w'.cell? ⟨b, off + k * 2, none⟩ = some (.string s) ∧ w'.cell? ⟨b, off + k * 2 + 1, none⟩ = some (.int .i64 i))) (by kernel_rfl) ?_ (fun hHeld => ?_)
        · exact ⟨q1, q2⟩
        refine wpAnyH_take (i := 0) (v := ?_) rfl (by kernel_rfl) (by kernel_rfl) (by kernel_rfl) (fun _ _ _ h => h) (Or.inl ⟨by rfl, fun w hSw => ?_⟩) (by assumption) ?_
        rotate_left
        · (try dsimp only at hSw); go_simp; try with_reducible rfl
        simp only [Act.put, List.setIfInBounds_toArray, List.set_cons_zero, List.set_cons_succ, List.getElem_toArray, List.getElem_cons_zero]
        refine wpAnyH_take (i := 1) (v := ?_) rfl (by kernel_rfl) (by kernel_rfl) (by kernel_rfl) (fun _ _ _ h => h) (Or.inl ⟨by rfl, fun w hSw => ?_⟩) (by assumption) ?_
        rotate_left
        · (try dsimp only at hSw); go_simp; try with_reducible rfl
        simp only [Act.put, List.setIfInBounds_toArray, List.set_cons_zero, List.set_cons_succ, List.getElem_toArray, List.getElem_cons_succ, List.getElem_cons_zero]
        refine wpAnyH_take (i := 2) (v := ?_) rfl (by kernel_rfl) (by kernel_rfl) (by kernel_rfl) (fun _ _ _ h => h) (Or.inl ⟨by rfl, fun w hSw => ?_⟩) (by assumption) ?_
        rotate_left
        · (try dsimp only at hSw); go_simp; try with_reducible rfl
        simp only [Act.put, List.setIfInBounds_toArray, List.set_cons_zero, List.set_cons_succ, List.getElem_toArray, List.getElem_cons_succ, List.getElem_cons_zero]
        refine wpAnyH_take (i := 3) (v := ?_) rfl (by kernel_rfl) (by kernel_rfl) (by kernel_rfl) (fun _ _ _ h => h) (Or.inl ⟨by rfl, fun w hSw => ?_⟩) (by assumption) ?_
        rotate_left
        · (try dsimp only at hSw); go_simp; try with_reducible rfl
        simp only [Act.put, List.setIfInBounds_toArray, List.set_cons_zero, List.set_cons_succ, List.getElem_toArray, List.getElem_cons_succ, List.getElem_cons_zero]
        refine wpAnyH_take (i := 4) (v := ?_) rfl (by kernel_rfl) (by kernel_rfl) (by kernel_rfl) (fun _ _ _ h => h) (Or.inl ⟨by rfl, fun w hSw => ?_⟩) (by assumption) ?_
        rotate_left
        · (try dsimp only at hSw); go_simp; try with_reducible rfl
        simp only [Act.put, List.setIfInBounds_toArray, List.set_cons_zero, List.set_cons_succ, List.getElem_toArray, List.getElem_cons_succ, List.getElem_cons_zero]
        refine wpAnyH_take (i := 5) (v := ?_) rfl (by kernel_rfl) (by kernel_rfl) (by kernel_rfl) (fun _ _ _ h => h) (Or.inl ⟨by rfl, fun w hSw => ?_⟩) (by assumption) ?_
        rotate_left
        · (try dsimp only at hSw); go_simp; try with_reducible rfl
        simp only [Act.put, List.setIfInBounds_toArray, List.set_cons_zero, List.set_cons_succ, List.getElem_toArray, List.getElem_cons_succ, List.getElem_cons_zero]
        refine wpAnyH_take (i := 6) (v := ?_) rfl (by kernel_rfl) (by kernel_rfl) (by kernel_rfl) (fun _ _ _ h => h) (Or.inl ⟨by rfl, fun w hSw => ?_⟩) (by assumption) ?_
        rotate_left
        · (try dsimp only at hSw); go_simp; try with_reducible rfl
        simp only [Act.put, List.setIfInBounds_toArray, List.set_cons_zero, List.set_cons_succ, List.getElem_toArray, List.getElem_cons_succ, List.getElem_cons_zero]
        refine wpAnyH_take (i := 7) (v := ?_) rfl (by kernel_rfl) (by kernel_rfl) (by kernel_rfl) (fun _ _ _ h => h) (Or.inl ⟨by rfl, fun w hSw => ?_⟩) (by assumption) ?_
        rotate_left
        · (try dsimp only at hSw); go_simp; try with_reducible rfl
        simp only [Act.put, List.setIfInBounds_toArray, List.set_cons_zero, List.set_cons_succ, List.getElem_toArray, List.getElem_cons_succ, List.getElem_cons_zero]
        refine wpAnyH_take (i := 8) (v := ?_) rfl (by kernel_rfl) (by kernel_rfl) (by kernel_rfl) (fun _ _ _ h => h) (Or.inl ⟨by rfl, fun w hSw => ?_⟩) (by assumption) ?_
        rotate_left
        · (try dsimp only at hSw); go_simp; try with_reducible rfl
        simp only [Act.put, List.setIfInBounds_toArray, List.set_cons_zero, List.set_cons_succ, List.getElem_toArray, List.getElem_cons_succ, List.getElem_cons_zero]
        refine wpAnyH_take (i := 9) (v := ?_) rfl (by kernel_rfl) (by kernel_rfl) (by kernel_rfl) (fun _ _ _ h => h) (Or.inl ⟨by rfl, fun w hSw => ?_⟩) (by assumption) ?_
        rotate_left
        · (try dsimp only at hSw); go_simp; try with_reducible rfl
        simp only [Act.put, List.setIfInBounds_toArray, List.set_cons_zero, List.set_cons_succ, List.getElem_toArray, List.getElem_cons_succ, List.getElem_cons_zero]
        refine wpAnyH_take (i := 10) (v := ?_) rfl (by kernel_rfl) (by kernel_rfl) (by kernel_rfl) (fun _ _ _ h => h) (Or.inl ⟨by rfl, fun w hSw => ?_⟩) (by assumption) ?_
        rotate_left
        · (try dsimp only at hSw); go_simp; try with_reducible rfl
        simp only [Act.put, List.setIfInBounds_toArray, List.set_cons_zero, List.set_cons_succ, List.getElem_toArray, List.getElem_cons_succ, List.getElem_cons_zero]
        refine wpAnyH_take (i := 11) (v := ?_) rfl (by kernel_rfl) (by kernel_rfl) (by kernel_rfl) (fun _ _ _ h => h) (Or.inl ⟨by rfl, fun w hSw => ?_⟩) (by assumption) ?_
        rotate_left
        · (try dsimp only at hSw); go_simp; try with_reducible rfl
        simp only [Act.put, List.setIfInBounds_toArray, List.set_cons_zero, List.set_cons_succ, List.getElem_toArray, List.getElem_cons_succ, List.getElem_cons_zero]
        refine wpAnyH_take (i := 12) (v := ?_) rfl (by kernel_rfl) (by kernel_rfl) (by kernel_rfl) (fun _ _ _ h => h) (Or.inl ⟨by rfl, fun w hSw => ?_⟩) (by assumption) ?_
        rotate_left
        · (try dsimp only at hSw); go_simp; try with_reducible rfl
        simp only [Act.put, List.setIfInBounds_toArray, List.set_cons_zero, List.set_cons_succ, List.getElem_toArray, List.getElem_cons_succ, List.getElem_cons_zero]
        refine wpAnyH_take (i := 13) (v := ?_) rfl (by kernel_rfl) (by kernel_rfl) (by kernel_rfl) (fun _ _ _ h => h) (Or.inl ⟨by rfl, fun w hSw => ?_⟩) (by assumption) ?_
        rotate_left
        · (try dsimp only at hSw); go_simp; try with_reducible rfl
        simp only [Act.put, List.setIfInBounds_toArray, List.set_cons_zero, List.set_cons_succ, List.getElem_toArray, List.getElem_cons_succ, List.getElem_cons_zero]
        refine wpAnyH_ready (rs := [14]) (by kernel_rfl) (by simp) ?_
        refine AllReadyH.cons rfl (fun K hK => ?_) AllReadyH.nil
        simp only [List.getElem_toArray, List.getElem_cons_succ, List.getElem_cons_zero]
        go_simp
        have hbX : Below wr.heap.size wr (wr.alloc (.cells #[.int .u8 i, .int .u8 0, .int .u8 ((s.size : Nat) : Int)] 5)).drew := below_drewN ((Below.refl _ _).alloc (Nat.le_refl _) _) 1
        refine hK.out _ _ ⟨(hbX.cell (p := ⟨b, off + k * 2, none⟩) HBL.out).trans q1, (hbX.cell (p := ⟨b, off + k * 2 + 1, none⟩) HBL.out).trans q2⟩ (fun hHeld => ?_)
        have HOX := Lib.hid (HO0.out.below (Nat.le_refl _) hbX)
        have HBX := Lib.hid (HB.out.trans (hbX.mono hws))
        have HKX := Lib.hid ((bys_lit (w := wr) (g := wr.heap.size) (n := 3) (zs := [i, 0, (s.size : Int)]) (cs := #[.int .u8 i, .int .u8 0, .int .u8 ((s.size : Nat) : Int)]) rfl rfl rfl (fun z hz => by simp at hz; omega)).drewN 1)
        have q1' := (hbX.cell (p := ⟨b, off + k * 2, none⟩) HBL.out).trans q1
        have q2' := (hbX.cell (p := ⟨b, off + k * 2 + 1, none⟩) HBL.out).trans q2
        have hXs : w.heap.size ≤ (wr.alloc (.cells #[.int .u8 i, .int .u8 0, .int .u8 ((s.size : Nat) : Int)] 5)).drew.heap.size := HBX.out.size
        have HQX := Lib.hid (And.intro q1' q2')
        clear hK K hbX q1 q2 q1' q2'
        refine wpAnyH_ready (rs := [15]) (by kernel_rfl) (by simp) ?_
        refine AllReadyH.cons rfl (fun K hK => ?_) AllReadyH.nil
        simp only [List.getElem_toArray, List.getElem_cons_succ, List.getElem_cons_zero]
        rw [if_pos (by rfl)]
        refine wp_apk (.tmp 16) (.tmp 30) rfl w.heap.size (.slice va m vc) m zs rfl HOX.out ⟨wr.heap.size, 0, none⟩ 3 3 [i, 0, (s.size : Int)] rfl HKX.out (by omega) (by omega) hXs w HBX.out ?_
        intro g3 c3 w3 ho3 hb3
        refine hK.out _ _ ⟨(hb3.cell (p := ⟨b, off + k * 2, none⟩) HR.out.1).trans HR.out.2.1, (hb3.cell (p := ⟨b, off + k * 2 + 1, none⟩) HR.out.1).trans HR.out.2.2⟩ (fun hHeld => ?_)
        have HO3 := Lib.hid ho3
        have HB3 := Lib.hid hb3
        have c1 := (hb3.cell (p := ⟨b, off + k * 2, none⟩) HR.out.1).trans HR.out.2.1
        clear hK K ho3 hb3
        refine wpAnyH_take (i := 16) (v := ?_) rfl (by kernel_rfl) (by kernel_rfl) (by kernel_rfl) (fun _ _ _ h => h) (Or.inl ⟨by rfl, fun w hSw => ?_⟩) (by assumption) ?_
        rotate_left
        · (try dsimp only at hSw); go_simp; try with_reducible rfl
        simp only [Act.put, List.setIfInBounds_toArray, List.set_cons_zero, List.set_cons_succ, List.getElem_toArray, List.getElem_cons_succ, List.getElem_cons_zero]
        refine wpAnyH_done (by kernel_rfl) ?_ _
        go_wp2_with (at_builtin; refine wpList_aps rfl (.tmp 32) (.tmp 37) rfl w.heap.size _ (m + 3) (zs ++ [i, 0, (s.size : Int)]) rfl HO3.out s rfl (by omega) HB3.out.size w HB3.out ?_; intro v6 w6 ho6 hb6)
        have HO6 := Lib.hid ho6
        have HB6 := Lib.hid hb6
        clear ho6 hb6
        go_roundw
        case rel => exact ⟨k + 1, m + 3 + s.size, zs ++ [i, 0, (s.size : Int)] ++ bI s.data.toList, by omega, by go_num, by rw [HST.out]; simp, HO6.out, HB6.out⟩
        case measure => simp [RowKit.intOf]; omega
      · obtain rfl : k = L.length := by omega
        have k1 : ¬ (L.length : Int) < (L.length : Int) := by omega
        rw [List.take_of_length_le (Nat.le_refl _)] at hzs
        subst hzs
        obtain rfl := hO.len
        have HO2 := Lib.hid hO
        clear hO hB
        go_wp2_with (fail)
        go_ret2
        exact ⟨_, rfl, by rw [he.out]; exact HO2.out, HB.out⟩
end Go.Proofs.Ytiedapiepklhlaa
