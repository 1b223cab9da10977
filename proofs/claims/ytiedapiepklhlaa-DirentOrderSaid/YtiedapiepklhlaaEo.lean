/-
  The program's Encode, by contract.
-/
import Derived.Test.YtiedapiepklhlaaEn
namespace Go.Proofs.Ytiedapiepklhlaa
open Go.RowKit
set_option linter.unusedVariables false
set_option linter.unusedSimpArgs false

theorem box_apart {w0 w : World} {v : Value} {g : Nat} (h : v.ownBlock = some g ∨ g = w.heap.size) (hl : ∀ k, v.ownBlock = some k → k < w0.heap.size) (hs : w0.heap.size + 1 ≤ w.heap.size) : g ≠ w0.heap.size := by
  rcases h with h | h
  · have := hl g h; omega
  · omega
set_option maxHeartbeats 4000000 in
theorem encode_any (a : Option Addr) (n c : Nat) (L : List En) (w : World) (h : Ens w a n L) (hn : n ≤ 1000000) :
    Calls Try.prog 11 #[.slice a n c] w (EncPost w (encO L) (rgt L)) := by
  have hl := h.len
  subst hl
  have har := areRight_any a L.length c L w h (by omega)
  have HH := Lib.hid h
  clear h
  cases hr : rgt L with
  | false =>
    rw [hr] at har
    have he := Lib.hid (show encO L = [] by unfold encO; rw [hr]; rfl)
    clear hr
    go_enter Try.func11, Try.ntmps11
    go_wp2_with (fail)
    refine har.mono ?_
    rintro e w1 ⟨rfl, hb1⟩
    have HB1 := Lib.hid hb1
    clear hb1 har
    go_wp2_with (fail)
    go_ret2
    exact ⟨_, rfl, by rw [he.out]; exact own_nil8 _ _, HB1.out⟩
  | true =>
    rw [hr] at har
    obtain ⟨h64, hall, _⟩ := rgt_all hr
    have he := Lib.hid (show encO L = encL L by unfold encO; rw [hr]; rfl)
    have HA := Lib.hid hall
    clear hr hall
    go_enter Try.func11, Try.ntmps11
    go_wp2_with (fail)
    refine har.mono ?_
    rintro e w1 ⟨rfl, hb1⟩
    have HB1 := Lib.hid hb1
    clear hb1 har
    go_wp2_with (fail)
    go_loopw [4, 6, 12] (fun v4 _ v wr => ∃ (k m : Nat) (zs : List Int), k ≤ L.length ∧ v = .int .i64 k ∧ encL (L.take k) = zs ∧ Own wr w.heap.size v4 m zs ∧ Below w.heap.size w wr) (fun _ _ v _ => L.length - (RowKit.intOf v).toNat)
    case atStart => exact ⟨0, 0, [], by omega, rfl, rfl, own_nil8 _ _, HB1.out⟩
    case round =>
      obtain ⟨k, m, zs, hk, rfl, hzs, hO, hB⟩ := hrel
      have HO := Lib.hid hO
      have HB := Lib.hid hB
      by_cases hlt : k < L.length
      · have k1 : (k : Int) < (L.length : Int) := by omega
        have k0 : (0 : Int) ≤ (k : Int) := by omega
        obtain ⟨b, off, rfl, hbl, hd1, hd2⟩ := (HH.out.next hB).at hlt
        obtain ⟨va, vc, rfl, _⟩ := hO.form
        have hm := hO.len
        have hle := encL_len (all_take HA.out k)
        rw [List.length_take, hzs, hm] at hle
        have hst := encL_step hlt
        obtain ⟨hok1, hok2, hok3, hok4, hok5⟩ := okE_all (all_at HA.out hlt)
        obtain ⟨s, hs⟩ : ∃ s, (eat L k).s = s := ⟨_, rfl⟩
        obtain ⟨i, hi⟩ : ∃ i, (eat L k).i = i := ⟨_, rfl⟩
        have hen : encE (eat L k) = [i, 0] ++ [(s.size : Int)] ++ bI s.data.toList := by unfold encE; rw [hs, hi]; rfl
        rw [hs] at hd1 hok4 hok5
        rw [hi] at hd2 hok2 hok3
        rw [hen, hzs] at hst
        have HST := Lib.hid hst
        have HZS := Lib.hid hzs
        have HM := Lib.hid hm
        have hbx : Below wr.heap.size wr (wr.alloc (.cells #[.string s, .int .i64 i] 36 (0, 0))) := (Below.refl _ _).alloc (Nat.le_refl _) _
        have hput := put_yes 2 i (wr.alloc (.cells #[.string s, .int .i64 i] 36 (0, 0))) (by omega) (by omega) (hasW2 hok2 hok3)
        rw [digs2 hok2 hok3, show (wr.alloc (.cells #[.string s, .int .i64 i] 36 (0, 0))).heap.size = wr.heap.size + 1 by simp] at hput
        have HO0 := Lib.hid hO
        have HLO := Lib.hid (show ∀ k, (Value.slice va m vc).ownBlock = some k → k < wr.heap.size from fun k h => (hO.row.lt k h).2)
        have HBX := Lib.hid hbx
        have hws := HB.out.size
        clear hO hB hbl hst hen hs hi hzs hm hbx HO hok1
        go_wp2_with (fail)
        refine hput.mono ?_
        rintro e w2 ⟨rfl, hbk, hb2⟩
        have hbw : Below wr.heap.size wr w2 := HBX.out.trans (hb2.mono (by omega))
        have HO2 := Lib.hid (HO0.out.below (Nat.le_refl _) hbw)
        have HB2 := Lib.hid (HB.out.trans (hbw.mono hws))
        have HK2 := Lib.hid (hbk.all (fun z hz => by simp at hz; omega))
        have hs2 := hbw.size
        have hs2' : wr.heap.size + 1 ≤ w2.heap.size := by simpa using hb2.size
        have d0 := hb2.cell (p := ⟨wr.heap.size, 0, none⟩) (by simp)
        rw [show (wr.alloc (.cells #[.string s, .int .i64 i] 36 (0, 0))).cell? ⟨wr.heap.size, 0, none⟩ = some (.string s) by simp] at d0
        have HD2 := Lib.hid d0
        clear hbw hbk hb2 hput d0
        go_wp2_with
          (at_builtin
           refine wpList_apk rfl (.tmp 16) (.tmp 19) rfl w.heap.size _ m zs rfl HO2.out ⟨wr.heap.size + 1, 0, none⟩ 2 2 [i, 0] rfl HK2.out (by omega) (by omega) (by omega) w HB2.out ?_
           intro g3 c3 w3 ho3 hb3 hgr3 hat3
           have e0 := hgr3.cell (a := ⟨wr.heap.size, 0, none⟩) HD2.out (fun e => absurd (HLO.out _ e.symm) (Nat.lt_irrefl _))
           have hs3 := hgr3.size
           have HG3 := Lib.hid (box_apart hat3 HLO.out hs2')
           have HE3 := Lib.hid e0
           have HO3 := Lib.hid ho3
           have HB3 := Lib.hid hb3
           clear hgr3 hat3 ho3 hb3)
        have hput1 := put_yes 1 ((s.size : Nat) : Int) w3 (by omega) (by omega) (hasW1 (by omega) (by omega))
        rw [digs1 (by omega) (by omega)] at hput1
        refine hput1.mono ?_
        rintro e w4 ⟨rfl, hbk4, hb4⟩
        have e0' := (hb4.cell (p := ⟨wr.heap.size, 0, none⟩) (show wr.heap.size < w3.heap.size by omega)).trans HE3.out
        have HE4 := Lib.hid e0'
        have HO4 := Lib.hid (HO3.out.below (Nat.le_refl _) hb4)
        have HB4 := Lib.hid (HB3.out.trans (hb4.mono HB3.out.size))
        have HK4 := Lib.hid (hbk4.all (fun z hz => by simp at hz; omega))
        have hs4 := hb4.size
        clear hb4 hbk4 hput1 e0 e0'
        go_wp2_with (first
          | (at_builtin
             refine wpList_apk rfl (.tmp 21) (.tmp 25) rfl w.heap.size _ (m + 2) (zs ++ [i, 0]) rfl HO4.out ⟨w3.heap.size, 0, none⟩ 1 1 [(s.size : Int)] rfl HK4.out (by omega) (by omega) (by omega) w HB4.out ?_
             intro g5 c5 w5 ho5 hb5 hgr5 hat5
             have e5 := hgr5.cell (a := ⟨wr.heap.size, 0, none⟩) HE4.out (fun e => HG3.out (Option.some.inj e).symm)
             have hs5 := hgr5.size
             have HO5 := Lib.hid ho5
             have HB5 := Lib.hid hb5
             clear hgr5 hat5 ho5 hb5)
          | (at_builtin
             refine wpList_aps rfl (.tmp 27) (.tmp 29) rfl w.heap.size _ (m + 2 + 1) (zs ++ [i, 0] ++ [(s.size : Int)]) rfl HO5.out s rfl (by omega) (by omega) w HB5.out ?_
             intro v6 w6 ho6 hb6
             have HO6 := Lib.hid ho6
             have HB6 := Lib.hid hb6
             clear ho6 hb6))
        go_roundw
        case rel => exact ⟨k + 1, m + 2 + 1 + s.size, zs ++ [i, 0] ++ [(s.size : Int)] ++ bI s.data.toList, by omega, by go_num, by rw [HST.out]; simp, HO6.out, HB6.out⟩
        case measure => simp [RowKit.intOf]; omega
      · obtain rfl : k = L.length := by omega
        have k1 : ¬ (L.length : Int) < (L.length : Int) := by omega
        rw [List.take_of_length_le (Nat.le_refl _)] at hzs
        subst hzs
        obtain rfl := hO.len
        have HO2 := Lib.hid hO
        clear hO hB
        go_wp2_with (fail)
        go_ret2
        exact ⟨_, rfl, by rw [he.out]; exact HO2.out, HB.out⟩
end Go.Proofs.Ytiedapiepklhlaa
