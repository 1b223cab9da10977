/-
  The program's Split, by contract.
-/
import Derived.Test.YthoblenoijkglaaDoorAr
import Derived.Test.YthoblenoijkglaaDoorLay
import Derived.Shelf.Small.Wraps
namespace Go.Proofs.YthoblenoijkglaaDoor
open Go.RowKit
set_option linter.unusedVariables false
set_option linter.unusedSimpArgs false

def slash : ByteArray := ⟨#[47]⟩
theorem slash_index (x : ByteArray) : Lib.indexByte x.data.toList 47 = Lib.indexB x slash := (Lib.index_one _ _).symm
theorem slash_count (s : ByteArray) : (Lib.countByte s.data.toList 47 : Int) = Lib.countB s slash := by
  show _ = ((Lib.count s.data.toList [47] : Nat) : Int)
  rw [Lib.count_one]
  rfl
theorem nin_eq (s : ByteArray) : (Lib.splitB slash 0 (min 9 (s.size + 1) - 1) s).map (·.data.toList) = nin s.data.toList := by
  rw [Lib.splitB_data, Lib.size_eq]; rfl
theorem genSplit_any (s : ByteArray) (w : World) (hs : s.size < 4294967281) :
    Calls Tryd.prog 27 #[.string s, .string slash, .int .i64 0, .int .i64 9] w fun e w' =>
      ∃ c : Nat, e = .returned (.slice (some ⟨w.heap.size, 0, none⟩) (nin s.data.toList).length c) ∧ OwnT w' w.heap.size (.slice (some ⟨w.heap.size, 0, none⟩) (nin s.data.toList).length c) (nin s.data.toList).length (nin s.data.toList) ∧ Below w.heap.size w w' := by
  refine (Any.strings_genSplit_core lays221 (by kernel_rfl) s slash 0 9 (min 9 (s.size + 1)) w hs (by decide) (Nat.zero_le _)
    (fun x c hx => (Any.strings_Index_one { lays221 with } x 47 _).mono fun e w' ⟨he, hw⟩ => ⟨by rw [he, slash_index], hw⟩)
    ((Any.strings_Count_one { lays221 with } s 47 w).mono fun e w' ⟨he, hw⟩ => ⟨by rw [he, slash_count], hw⟩)
    (by decide) (by decide) (by simp; omega)).mono ?_
  rintro e w' ⟨rfl, rfl⟩
  have hl : (Lib.splitB slash 0 (min 9 (s.size + 1) - 1) s).length = (nin s.data.toList).length := by rw [← nin_eq, List.length_map]
  have hle := Lib.splitB_length_le slash 0 (min 9 (s.size + 1) - 1) s
  have hcs : (Lib.splitB slash 0 (min 9 (s.size + 1) - 1) s).map Value.string = (nin s.data.toList).map fun x => Value.string (tx x) := by
    rw [← nin_eq, List.map_map]
    exact List.map_congr_left fun x _ => by simp [tx_data]
  rw [hl] at hle
  refine ⟨min 9 (s.size + 1), by rw [hl], ⟨by simp, .inr ⟨w.heap.size, min 9 (s.size + 1), _, rfl, Nat.le_refl _, heap_alloc_new w _, by omega, by unfold maxLen; omega, ?_, ?_⟩⟩, (Below.refl _ _).alloc (Nat.le_refl _) _⟩
  · rw [Nat.mul_one]; exact Lib.cellsOf_size (by omega)
  · unfold Lib.cellsOf
    rw [List.toList_toArray, Nat.mul_one, hcs]
    exact List.take_left' (by simp)
theorem splitN_any (s : ByteArray) (w : World) (hs : s.size < 4294967281) :
    Calls Tryd.prog 19 #[.string s, .string slash, .int .i64 9] w fun e w' =>
      ∃ c : Nat, e = .returned (.slice (some ⟨w.heap.size, 0, none⟩) (nin s.data.toList).length c) ∧ OwnT w' w.heap.size (.slice (some ⟨w.heap.size, 0, none⟩) (nin s.data.toList).length c) (nin s.data.toList).length (nin s.data.toList) ∧ Below w.heap.size w w' := by
  have hc := genSplit_any s w hs
  go_enter Tryd.func19, Tryd.ntmps19
  go_wp2_with (fail)
  refine hc.mono ?_
  rintro e w' ⟨c, rfl, ho, hb⟩
  go_wp2_with (fail)
  go_ret
  exact ⟨c, rfl, ho, hb⟩
theorem clone_any (s : ByteArray) (w : World) (hs : s.size ≤ 281474976710656) : Calls Tryd.prog 21 #[.string s] w fun e w' => e = .returned (.string s) ∧ Below w.heap.size w w' := by
  have hc : Calls Tryd.prog 30 #[.string s] w fun e w' => e = .returned (.string s) ∧ Below w.heap.size w w' := Any.stringslite_Clone laysM316 s w hs
  go_enter Tryd.func21, Tryd.ntmps21
  go_wp2_with (fail)
  refine hc.mono ?_
  rintro e w' ⟨rfl, hb⟩
  go_wp2_with (fail)
  go_ret
  exact ⟨rfl, hb⟩
theorem cut_any (s : ByteArray) (w : World) : Calls Tryd.prog 18 #[.string s, .string slash] w fun e w' =>
    e = .returned (.tuple #[.string (tx (Lib.trimPrefix s.data.toList [47])), .bool (Lib.hasPrefix s.data.toList [47])]) ∧ w' = w :=
  Any.strings_CutPrefix lays103 s slash w
/-- A text put where it lies. -/
theorem OwnT.put {w : World} {B g n c k : Nat} {L : List (List UInt8)} (h : OwnT w B (.slice (some ⟨g, 0, none⟩) n c) n L) (hk : k < n) : OwnT (w.setCell ⟨g, k, none⟩ (.string (tx (tat L k)))) B (.slice (some ⟨g, 0, none⟩) n c) n L := by
  have hl : L.length = n := by have := h.1; simpa using this
  rcases h.2 with ⟨e, _⟩ | ⟨g', cap, cur, e, hb, hg, hnc, hm, hsz, htake⟩
  · cases e
  · cases e
    refine ⟨h.1, .inr ⟨g, c, cur.setIfInBounds k (.string (tx (tat L k))), rfl, hb, heap_setCell_same w g k cur _ _ hg, hnc, hm, by simpa using hsz, ?_⟩⟩
    rw [Nat.mul_one] at htake ⊢
    rw [Array.toList_setIfInBounds, List.take_set, htake]
    apply List.ext_getElem?
    intro i
    rw [List.getElem?_set]
    split
    · next e =>
      subst e
      rw [if_pos (by simp; omega)]
      simp [tat, List.getD, show k < L.length by omega]
    · rfl
theorem OwnT.free {w : World} {B g n c : Nat} {L : List (List UInt8)} (h : OwnT w B (.slice (some ⟨g, 0, none⟩) n c) n L) (i : Nat) : w.frozen? ⟨g, i, none⟩ = false := by
  rcases h.2 with ⟨e, _⟩ | ⟨g', cap, cur, e, hb, hg, hnc, hm, hsz, htake⟩
  · cases e
  · cases e
    exact frozen_of_row w g i _ _ hg

theorem spl_slash {l : List UInt8} : Lib.hasPrefix l [47] = true → ∃ r, l = 47 :: r := by
  intro h
  cases l with
  | nil => simp [Lib.hasPrefix] at h
  | cons b r =>
    simp [Lib.hasPrefix, List.isPrefixOf] at h
    exact ⟨r, by rw [h]⟩
theorem spl_off {l : List UInt8} (h : Lib.hasPrefix l [47] = false) : spl l = none := by
  cases l with
  | nil => rfl
  | cons b r =>
    have : b ≠ 47 := fun e => by subst e; simp [Lib.hasPrefix, List.isPrefixOf] at h
    rw [spl, if_neg this]
theorem trim_slash (r : List UInt8) : Lib.trimPrefix (47 :: r) [47] = r := by simp [Lib.trimPrefix, Lib.hasPrefix, List.isPrefixOf]
theorem has_slash (r : List UInt8) : Lib.hasPrefix (47 :: r) [47] = true := by simp [Lib.hasPrefix, List.isPrefixOf]
/-- What Split answers: the names and a number. -/
def SplPost (w : World) (o : Option (List (List UInt8))) (e : Ending) (w' : World) : Prop := SplV w.heap.size o e w' ∧ Below w.heap.size w w'
set_option maxHeartbeats 2000000 in
theorem split_any (s : ByteArray) (w : World) (hs : s.size < 4294967281) : Calls Tryd.prog 8 #[.string s] w (SplPost w (spl s.data.toList)) := by
  have hct := cut_any s w
  cases hp : Lib.hasPrefix s.data.toList [47] with
  | false =>
    have hn := Lib.hid (spl_off hp)
    rw [hp] at hct
    go_enter Tryd.func8, Tryd.ntmps8
    go_wp2_with (fail)
    refine hct.mono ?_
    rintro e w' ⟨rfl, rfl⟩
    go_wp2_with (fail)
    go_ret2
    exact ⟨by rw [hn.out]; rfl, Below.refl _ _⟩
  | true =>
    obtain ⟨r, hr⟩ := spl_slash hp
    rw [hr, trim_slash, has_slash] at hct
    have hsz : r.length < s.size := by rw [Lib.size_eq, hr]; simp
    by_cases h0 : r = []
    · subst h0
      have hsp := Lib.hid (show spl s.data.toList = some [] by rw [hr]; rfl)
      have hte : (tx []).toList.isEmpty = true := by rw [Lib.toList_data]; rfl
      clear hr hp
      go_enter Tryd.func8, Tryd.ntmps8
      go_wp2_with (fail)
      refine hct.mono ?_
      rintro e w' ⟨rfl, rfl⟩
      go_wp2_with (fail)
      go_ret2
      exact ⟨by rw [hsp.out]; exact ⟨_, rfl, ownT_nil _ _⟩, Below.refl _ _⟩
    · have hsp : spl s.data.toList = if arP (pcs r) then some (pcs r) else none := by rw [hr, spl, if_pos rfl, if_neg h0]
      have hte : (tx r).toList.isEmpty = false := by
        rw [Lib.toList_data, data_tx]
        cases r with
        | nil => exact absurd rfl h0
        | cons _ _ => rfl
      have hsn := splitN_any (tx r) w (by rw [tx_size]; omega)
      rw [data_tx] at hsn
      have hap := arP_nin r
      rw [← hap.1] at hsp
      have hle := nin_le r
      obtain ⟨L, hL⟩ : ∃ L, L = nin r := ⟨_, rfl⟩
      rw [← hL] at hsp hsn hap hle
      have HSP := Lib.hid hsp
      have HAP := Lib.hid hap
      clear hr hp hL hsp hap h0
      go_enter Tryd.func8, Tryd.ntmps8
      go_wp2_with (fail)
      refine hct.mono ?_
      rintro e w' ⟨rfl, rfl⟩
      go_wp2_with (fail)
      refine hsn.mono ?_
      rintro e w1 ⟨c, rfl, ho, hb⟩
      obtain ⟨a', c', ev, hS, hnc, hcm, _, hlo⟩ := ho.sts
      cases ev
      have har := are_any w1 _ _ c L hS
      have HO := Lib.hid ho
      have HB := Lib.hid hb
      clear ho hb hS hsn hct hlo
      cases hA : arP L with
      | false =>
        rw [hA] at har
        go_wp2_with (fail)
        refine har.mono ?_
        rintro e w2 ⟨rfl, hb2⟩
        have HB2 := Lib.hid (HB.out.trans (hb2.mono HB.out.size))
        clear hb2 har
        go_wp2_with (fail)
        go_ret2
        exact ⟨by rw [HSP.out, hA]; rfl, HB2.out⟩
      | true =>
        rw [hA] at har
        go_wp2_with (fail)
        refine har.mono ?_
        rintro e w2 ⟨rfl, hb2⟩
        have HB2 := Lib.hid (HB.out.trans (hb2.mono HB.out.size))
        have HO2 := Lib.hid (HO.out.next hb2)
        clear hb2 har
        go_wp2_with (fail)
        go_loopw [25] (fun v wr => ∃ k : Nat, k ≤ L.length ∧ v = .int .i64 k ∧ Below w'.heap.size w' wr ∧ OwnT wr w'.heap.size (.slice (some ⟨w'.heap.size, 0, none⟩) L.length c) L.length L) (fun v _ => L.length - (RowKit.intOf v).toNat)
        case atStart => exact ⟨0, by omega, rfl, HB2.out, HO2.out⟩
        case round =>
          obtain ⟨k, hk, rfl, hB, hO⟩ := hrel
          have HB := Lib.hid hB
          have HO := Lib.hid hO
          by_cases hlt : k < L.length
          · have k1 : (k : Int) < (L.length : Int) := by omega
            have k0 : (0 : Int) ≤ (k : Int) := by omega
            obtain ⟨a', c', ev, hS, _, _, _, hlo⟩ := hO.sts
            cases ev
            obtain ⟨b, off, ea, hbl, hc⟩ := hS.at (by omega)
            cases ea
            have x1 := hc k hlt
            rw [Nat.zero_add] at x1
            have hnm := nmB_pos (arP_all hA (tat_mem hlt))
            have hcl := clone_any (tx (tat L k)) wr (by rw [tx_size]; omega)
            clear hc hS hB hO hlo hnm
            go_wp2_with (fail)
            refine hcl.mono ?_
            rintro e w3 ⟨rfl, hb3⟩
            have c0 := (hb3.cell (p := ⟨w'.heap.size, k, none⟩) hbl).trans x1
            have HO3 := Lib.hid (HO.out.next hb3)
            have f0 := HO3.out.free k
            have HB3 := Lib.hid (HB.out.trans (hb3.mono HB.out.size))
            have lt := Nat.lt_of_lt_of_le hbl hb3.size
            clear hb3 hcl x1 hbl
            go_wp2_with (fail)
            go_roundw
            case rel => exact ⟨k + 1, by omega, by go_num, HB3.out.setCell (Nat.le_refl _) _, HO3.out.put hlt⟩
            case measure => simp [RowKit.intOf]; omega
          · obtain rfl : k = L.length := by omega
            clear hB hO
            go_wp2_with (fail)
            go_ret2
            refine ⟨?_, HB.out⟩
            rw [HSP.out, if_pos hA, ← HAP.out.2 hA]
            exact ⟨.slice (some ⟨w'.heap.size, 0, none⟩) L.length c, rfl, HO.out⟩
end Go.Proofs.YthoblenoijkglaaDoor
