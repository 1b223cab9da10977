/-
  The document's Put, by contract.
-/
import Derived.Test.YtiedapiepklhlaaPu
namespace Go.Proofs.Ytiedapiepklhlaa
open Go.RowKit
set_option linter.unusedVariables false
set_option linter.unusedSimpArgs false

set_option maxHeartbeats 4000000 in
theorem rput_any (a : Option Addr) (n c : Nat) (L : List En) (x : En) (w : World) (h : Ens w a n L) (hn : n ≤ 100000) (hz : a = none → n = 0 ∧ c = 0) (hq : n ≤ c) (hm : c ≤ 9223372036854775807) :
    Calls Try.prog 22 #[.slice a n c, env x] w (InsPost w.heap.size w (eput L x).length (eput L x)) := by
  obtain ⟨s, i⟩ := x
  have hb0 : Below w.heap.size w (w.alloc (.cells #[.string s, .int .i64 i] 36 (0, 0))) := (Below.refl _ _).alloc (Nat.le_refl _) _
  have hfi := rfind_any a n c L s (w.alloc (.cells #[.string s, .int .i64 i] 36 (0, 0))) (h.next hb0) (by omega)
  have HB := Lib.hid hb0
  have HH := Lib.hid h
  have HZ := Lib.hid hz
  have hl := h.len
  clear h hb0 hz
  unfold env
  simp only
  go_enter Try.func22, Try.ntmps22
  go_wp2_with (fail)
  refine hfi.mono ?_
  rintro e w1 ⟨rfl, hb1⟩
  have hB1 := HB.out.trans (hb1.mono HB.out.size)
  have c0 := hb1.cell (p := ⟨w.heap.size, 0, none⟩) (by simp)
  have c1 := hb1.cell (p := ⟨w.heap.size, 1, none⟩) (by simp)
  rw [show (w.alloc (.cells #[.string s, .int .i64 i] 36 (0, 0))).cell? ⟨w.heap.size, 0, none⟩ = some (.string s) by simp] at c0
  rw [show (w.alloc (.cells #[.string s, .int .i64 i] 36 (0, 0))).cell? ⟨w.heap.size, 1, none⟩ = some (.int .i64 i) by simp] at c1
  have hwl : w.heap.size < w1.heap.size := Nat.lt_of_lt_of_le (by simp) hb1.size
  have HC := Lib.hid (And.intro c0 (And.intro c1 hwl))
  have HB1 := Lib.hid hB1
  have hfl := efix_le L s
  obtain ⟨k, hk⟩ : ∃ k, efix L s = k := ⟨_, rfl⟩
  have HK := Lib.hid hk
  have HH1 := Lib.hid (HH.out.next hB1)
  rw [hk] at hfl ⊢
  have HT := Lib.hid (((HH1.out.take (k := k) (by omega)).alloc (.cells #[] 36)))
  have HO := Lib.hid (ownE_none w1 w1.heap.size (Nat.le_refl _))
  have HB2 := Lib.hid ((Below.refl w1.heap.size w1).alloc (Nat.le_refl _) (.cells #[] 36))
  have HN1 := Lib.hid (show a = none → k = 0 ∧ c = 0 from fun e => by have := HZ.out e; omega)
  have k0 : (0 : Int) ≤ (k : Int) := by omega
  have k1 : (k : Int) ≤ (c : Int) := by omega
  have k2 : (k : Int) ≤ (n : Int) := by omega
  clear hB1 hb1 hfi hk c0 c1 hwl
  cases hh : ehas L s with
  | true =>
    have hlt := ehas_lt hh
    rw [HK.out] at hlt
    have hlt2 : k + 1 ≤ n := by omega
    obtain ⟨b, off, rfl, _, _, _⟩ := HH1.out.at (i := k) (by omega)
    have hres := Lib.hid (show L.take k ++ (⟨s, i⟩ : En) :: L.drop (k + 1) = eput L ⟨s, i⟩ by unfold eput; rw [show efix L (En.mk s i).s = k from HK.out, show ehas L (En.mk s i).s = true from hh]; rfl)
    have w1' : IntKind.i64.wrap ((k : Int) + 1) = (k : Int) + 1 := IntWalk.i64_in _ (by omega)
    have k3 : (0 : Int) ≤ (k : Int) + 1 := by omega
    have k4 : (k : Int) + 1 ≤ (n : Int) := by omega
    have t1 : ((k : Int) + 1).toNat = k + 1 := by omega
    clear hh
    by_cases hcn : c = k + 1
    · obtain rfl : n = k + 1 := by omega
      subst hcn
      have hdr : L.drop (k + 1) = [] := List.drop_of_length_le (by omega)
      have HD := Lib.hid (show Ens w1 (some ⟨b, off, none⟩) 0 [] from ens_nil _ _)
      go_wp2_with (first
        | (at_builtin
           refine wpList_ape rfl (.tmp 16) (.tmp 19) rfl w1.heap.size _ 0 [] rfl HO.out (some ⟨b, off, none⟩) k (k + 1) (L.take k) rfl HT.out (fun h => by cases h) (by omega) (by simp) w1 HB2.out ?_
           intro v4 w4 ho4 hb4
           have c0 := (hb4.cell (p := ⟨w.heap.size, 0, none⟩) HC.out.2.2).trans HC.out.1
           have c1 := (hb4.cell (p := ⟨w.heap.size, 1, none⟩) HC.out.2.2).trans HC.out.2.1
           rw [Nat.zero_add, List.nil_append] at ho4
           have HO4 := Lib.hid (ho4.alloc (.cells #[.string s, .int .i64 i] 36 (0, 0)))
           have HM4 := Lib.hid (ens_one (w := w4) (g := w4.heap.size) s i rfl)
           have HB4 := Lib.hid (hb4.alloc hb4.size (.cells #[.string s, .int .i64 i] 36 (0, 0)))
           have hsz4 := hb4.size
           clear ho4 hb4)
        | (at_builtin
           refine wpList_ape rfl (.tmp 21) (.tmp 23) rfl w1.heap.size _ k (L.take k) rfl HO4.out (some ⟨w4.heap.size, 0, none⟩) 1 1 [En.mk s i] rfl HM4.out (fun h => by cases h) (by omega) (by simp; omega) w1 HB4.out ?_
           intro v5 w5 ho5 hb5
           have HO5 := Lib.hid ho5
           have HB5 := Lib.hid hb5
           have HM5 := Lib.hid (HD.out.below (Nat.le_refl _) hb5)
           have hsz5 := hb5.size
           clear ho5 hb5)
        | (at_builtin
           refine wpList_ape rfl (.tmp 28) (.tmp 31) rfl w1.heap.size _ (k + 1) (L.take k ++ [En.mk s i]) rfl HO5.out (some ⟨b, off, none⟩) 0 0 [] rfl HM5.out (fun h => by cases h) (by omega) (by omega) w1 HB5.out ?_
           intro v6 w6 ho6 hb6
           have HO6 := Lib.hid ho6
           have HB6 := Lib.hid hb6
           clear ho6 hb6))
      go_ret
      have hww : w.heap.size ≤ w1.heap.size := HB1.out.size
      have hfin := HO6.out.lower hww
      have e : L.take k ++ [En.mk s i] ++ [] = eput L ⟨s, i⟩ := by rw [← hres.out, hdr]; simp
      rw [e] at hfin
      refine ⟨_, rfl, ?_, HB1.out.trans (HB6.out.mono hww)⟩
      rw [hfin.len]
      exact hfin
    · have hcn2 : ¬ (c = k + 1) := hcn
      have HD := Lib.hid (show Ens w1 (some ⟨b, off + (k + 1) * 2, none⟩) (n - (k + 1)) (L.drop (k + 1)) from HH1.out.drop)
      go_wp2_with (first
        | (at_builtin
           refine wpList_ape rfl (.tmp 16) (.tmp 19) rfl w1.heap.size _ 0 [] rfl HO.out (some ⟨b, off, none⟩) k c (L.take k) rfl HT.out (fun h => by cases h) (by omega) (by simp) w1 HB2.out ?_
           intro v4 w4 ho4 hb4
           have c0 := (hb4.cell (p := ⟨w.heap.size, 0, none⟩) HC.out.2.2).trans HC.out.1
           have c1 := (hb4.cell (p := ⟨w.heap.size, 1, none⟩) HC.out.2.2).trans HC.out.2.1
           rw [Nat.zero_add, List.nil_append] at ho4
           have HO4 := Lib.hid (ho4.alloc (.cells #[.string s, .int .i64 i] 36 (0, 0)))
           have HM4 := Lib.hid (ens_one (w := w4) (g := w4.heap.size) s i rfl)
           have HB4 := Lib.hid (hb4.alloc hb4.size (.cells #[.string s, .int .i64 i] 36 (0, 0)))
           have hsz4 := hb4.size
           clear ho4 hb4)
        | (at_builtin
           refine wpList_ape rfl (.tmp 21) (.tmp 23) rfl w1.heap.size _ k (L.take k) rfl HO4.out (some ⟨w4.heap.size, 0, none⟩) 1 1 [En.mk s i] rfl HM4.out (fun h => by cases h) (by omega) (by simp; omega) w1 HB4.out ?_
           intro v5 w5 ho5 hb5
           have HO5 := Lib.hid ho5
           have HB5 := Lib.hid hb5
           have HM5 := Lib.hid (HD.out.below (Nat.le_refl _) hb5)
           have hsz5 := hb5.size
           clear ho5 hb5)
        | (at_builtin
           refine wpList_ape rfl (.tmp 28) (.tmp 31) rfl w1.heap.size _ (k + 1) (L.take k ++ [En.mk s i]) rfl HO5.out (some ⟨b, off + (k + 1) * 2, none⟩) (n - (k + 1)) (c - (k + 1)) (L.drop (k + 1)) rfl HM5.out (fun h => by cases h) (by omega) (by omega) w1 HB5.out ?_
           intro v6 w6 ho6 hb6
           have HO6 := Lib.hid ho6
           have HB6 := Lib.hid hb6
           clear ho6 hb6))
      go_ret
      have hww : w.heap.size ≤ w1.heap.size := HB1.out.size
      have hfin := HO6.out.lower hww
      have e : L.take k ++ [En.mk s i] ++ (L.drop (k + 1)) = eput L ⟨s, i⟩ := by rw [← hres.out]; simp
      rw [e] at hfin
      refine ⟨_, rfl, ?_, HB1.out.trans (HB6.out.mono hww)⟩
      rw [hfin.len]
      exact hfin
  | false =>
    have hres := Lib.hid (show L.take k ++ (⟨s, i⟩ : En) :: L.drop k = eput L ⟨s, i⟩ by unfold eput; rw [show efix L (En.mk s i).s = k from HK.out, show ehas L (En.mk s i).s = false from hh]; rfl)
    have hww1 : w1.heap.size ≤ w1.heap.size := Nat.le_refl _
    clear hh
    by_cases hn0 : n = 0
    · obtain rfl : L = [] := List.length_eq_zero_iff.1 (by omega)
      subst hn0
      obtain rfl : k = 0 := by omega
      cases a with
      | none =>
        obtain ⟨_, rfl⟩ := HZ.out rfl
        have HD := Lib.hid (show Ens w1 none 0 [] from ens_nil _ _)
        go_wp2_with (first
          | (at_builtin
             refine wpList_ape rfl (.tmp 16) (.tmp 19) rfl w1.heap.size _ 0 [] rfl HO.out none 0 0 [] rfl HT.out (fun _ => ⟨rfl, rfl⟩) (by omega) (by simp) w1 HB2.out ?_
             intro v4 w4 ho4 hb4
             have c0 := (hb4.cell (p := ⟨w.heap.size, 0, none⟩) HC.out.2.2).trans HC.out.1
             have c1 := (hb4.cell (p := ⟨w.heap.size, 1, none⟩) HC.out.2.2).trans HC.out.2.1
             rw [Nat.zero_add, List.nil_append] at ho4
             have HO4 := Lib.hid (ho4.alloc (.cells #[.string s, .int .i64 i] 36 (0, 0)))
             have HM4 := Lib.hid (ens_one (w := w4) (g := w4.heap.size) s i rfl)
             have HB4 := Lib.hid (hb4.alloc hb4.size (.cells #[.string s, .int .i64 i] 36 (0, 0)))
             have hsz4 := hb4.size
             clear ho4 hb4)
          | (at_builtin
             refine wpList_ape rfl (.tmp 21) (.tmp 23) rfl w1.heap.size _ 0 [] rfl HO4.out (some ⟨w4.heap.size, 0, none⟩) 1 1 [En.mk s i] rfl HM4.out (fun h => by cases h) (by omega) (by simp; omega) w1 HB4.out ?_
             intro v5 w5 ho5 hb5
             have HO5 := Lib.hid ho5
             have HB5 := Lib.hid hb5
             have HM5 := Lib.hid (HD.out.below (Nat.le_refl _) hb5)
             have hsz5 := hb5.size
             clear ho5 hb5)
          | (at_builtin
             refine wpList_ape rfl (.tmp 28) (.tmp 31) rfl w1.heap.size _ (0 + 1) ([] ++ [En.mk s i]) rfl HO5.out none 0 0 [] rfl HM5.out (fun _ => ⟨rfl, rfl⟩) (by omega) (by omega) w1 HB5.out ?_
             intro v6 w6 ho6 hb6
             have HO6 := Lib.hid ho6
             have HB6 := Lib.hid hb6
             clear ho6 hb6))
        go_ret
        have hww : w.heap.size ≤ w1.heap.size := HB1.out.size
        have hfin := HO6.out.lower hww
        have e : [] ++ [En.mk s i] ++ [] = eput [] ⟨s, i⟩ := by rw [← hres.out]; simp
        rw [e] at hfin
        refine ⟨_, rfl, ?_, HB1.out.trans (HB6.out.mono hww)⟩
        rw [hfin.len]
        exact hfin
      | some p =>
        by_cases hcn : c = 0
        · subst hcn
          have HD := Lib.hid (show Ens w1 (some p) 0 [] from ens_nil _ _)
          go_wp2_with (first
            | (at_builtin
               refine wpList_ape rfl (.tmp 16) (.tmp 19) rfl w1.heap.size _ 0 [] rfl HO.out (some p) 0 0 [] rfl HT.out (fun h => by cases h) (by omega) (by simp) w1 HB2.out ?_
               intro v4 w4 ho4 hb4
               have c0 := (hb4.cell (p := ⟨w.heap.size, 0, none⟩) HC.out.2.2).trans HC.out.1
               have c1 := (hb4.cell (p := ⟨w.heap.size, 1, none⟩) HC.out.2.2).trans HC.out.2.1
               rw [Nat.zero_add, List.nil_append] at ho4
               have HO4 := Lib.hid (ho4.alloc (.cells #[.string s, .int .i64 i] 36 (0, 0)))
               have HM4 := Lib.hid (ens_one (w := w4) (g := w4.heap.size) s i rfl)
               have HB4 := Lib.hid (hb4.alloc hb4.size (.cells #[.string s, .int .i64 i] 36 (0, 0)))
               have hsz4 := hb4.size
               clear ho4 hb4)
            | (at_builtin
               refine wpList_ape rfl (.tmp 21) (.tmp 23) rfl w1.heap.size _ 0 [] rfl HO4.out (some ⟨w4.heap.size, 0, none⟩) 1 1 [En.mk s i] rfl HM4.out (fun h => by cases h) (by omega) (by simp; omega) w1 HB4.out ?_
               intro v5 w5 ho5 hb5
               have HO5 := Lib.hid ho5
               have HB5 := Lib.hid hb5
               have HM5 := Lib.hid (HD.out.below (Nat.le_refl _) hb5)
               have hsz5 := hb5.size
               clear ho5 hb5)
            | (at_builtin
               refine wpList_ape rfl (.tmp 28) (.tmp 31) rfl w1.heap.size _ (0 + 1) ([] ++ [En.mk s i]) rfl HO5.out (some p) 0 0 [] rfl HM5.out (fun h => by cases h) (by omega) (by omega) w1 HB5.out ?_
               intro v6 w6 ho6 hb6
               have HO6 := Lib.hid ho6
               have HB6 := Lib.hid hb6
               clear ho6 hb6))
          go_ret
          have hww : w.heap.size ≤ w1.heap.size := HB1.out.size
          have hfin := HO6.out.lower hww
          have e : [] ++ [En.mk s i] ++ [] = eput [] ⟨s, i⟩ := by rw [← hres.out]; simp
          rw [e] at hfin
          refine ⟨_, rfl, ?_, HB1.out.trans (HB6.out.mono hww)⟩
          rw [hfin.len]
          exact hfin
        · have hcn2 : ¬ (c = 0) := hcn
          have HD := Lib.hid (show Ens w1 (some p) 0 [] from ens_nil _ _)
          go_wp2_with (first
            | (at_builtin
               refine wpList_ape rfl (.tmp 16) (.tmp 19) rfl w1.heap.size _ 0 [] rfl HO.out (some p) 0 c [] rfl HT.out (fun h => by cases h) (by omega) (by simp) w1 HB2.out ?_
               intro v4 w4 ho4 hb4
               have c0 := (hb4.cell (p := ⟨w.heap.size, 0, none⟩) HC.out.2.2).trans HC.out.1
               have c1 := (hb4.cell (p := ⟨w.heap.size, 1, none⟩) HC.out.2.2).trans HC.out.2.1
               rw [Nat.zero_add, List.nil_append] at ho4
               have HO4 := Lib.hid (ho4.alloc (.cells #[.string s, .int .i64 i] 36 (0, 0)))
               have HM4 := Lib.hid (ens_one (w := w4) (g := w4.heap.size) s i rfl)
               have HB4 := Lib.hid (hb4.alloc hb4.size (.cells #[.string s, .int .i64 i] 36 (0, 0)))
               have hsz4 := hb4.size
               clear ho4 hb4)
            | (at_builtin
               refine wpList_ape rfl (.tmp 21) (.tmp 23) rfl w1.heap.size _ 0 [] rfl HO4.out (some ⟨w4.heap.size, 0, none⟩) 1 1 [En.mk s i] rfl HM4.out (fun h => by cases h) (by omega) (by simp; omega) w1 HB4.out ?_
               intro v5 w5 ho5 hb5
               have HO5 := Lib.hid ho5
               have HB5 := Lib.hid hb5
               have HM5 := Lib.hid (HD.out.below (Nat.le_refl _) hb5)
               have hsz5 := hb5.size
               clear ho5 hb5)
            | (at_builtin
               refine wpList_ape rfl (.tmp 28) (.tmp 31) rfl w1.heap.size _ (0 + 1) ([] ++ [En.mk s i]) rfl HO5.out (some p) 0 c [] rfl HM5.out (fun h => by cases h) (by omega) (by omega) w1 HB5.out ?_
               intro v6 w6 ho6 hb6
               have HO6 := Lib.hid ho6
               have HB6 := Lib.hid hb6
               clear ho6 hb6))
          go_ret
          have hww : w.heap.size ≤ w1.heap.size := HB1.out.size
          have hfin := HO6.out.lower hww
          have e : [] ++ [En.mk s i] ++ [] = eput [] ⟨s, i⟩ := by rw [← hres.out]; simp
          rw [e] at hfin
          refine ⟨_, rfl, ?_, HB1.out.trans (HB6.out.mono hww)⟩
          rw [hfin.len]
          exact hfin
    · obtain ⟨b, off, rfl, _, _, _⟩ := HH1.out.at (i := 0) (by omega)
      by_cases hcn : c = k
      · obtain rfl : n = k := by omega
        subst hcn
        have hdr : L.drop c = [] := List.drop_of_length_le (by omega)
        have HD := Lib.hid (show Ens w1 (some ⟨b, off, none⟩) 0 [] from ens_nil _ _)
        go_wp2_with (first
          | (at_builtin
             refine wpList_ape rfl (.tmp 16) (.tmp 19) rfl w1.heap.size _ 0 [] rfl HO.out (some ⟨b, off, none⟩) c c (L.take c) rfl HT.out (fun h => by cases h) (by omega) (by simp) w1 HB2.out ?_
             intro v4 w4 ho4 hb4
             have c0 := (hb4.cell (p := ⟨w.heap.size, 0, none⟩) HC.out.2.2).trans HC.out.1
             have c1 := (hb4.cell (p := ⟨w.heap.size, 1, none⟩) HC.out.2.2).trans HC.out.2.1
             rw [Nat.zero_add, List.nil_append] at ho4
             have HO4 := Lib.hid (ho4.alloc (.cells #[.string s, .int .i64 i] 36 (0, 0)))
             have HM4 := Lib.hid (ens_one (w := w4) (g := w4.heap.size) s i rfl)
             have HB4 := Lib.hid (hb4.alloc hb4.size (.cells #[.string s, .int .i64 i] 36 (0, 0)))
             have hsz4 := hb4.size
             clear ho4 hb4)
          | (at_builtin
             refine wpList_ape rfl (.tmp 21) (.tmp 23) rfl w1.heap.size _ c (L.take c) rfl HO4.out (some ⟨w4.heap.size, 0, none⟩) 1 1 [En.mk s i] rfl HM4.out (fun h => by cases h) (by omega) (by simp; omega) w1 HB4.out ?_
             intro v5 w5 ho5 hb5
             have HO5 := Lib.hid ho5
             have HB5 := Lib.hid hb5
             have HM5 := Lib.hid (HD.out.below (Nat.le_refl _) hb5)
             have hsz5 := hb5.size
             clear ho5 hb5)
          | (at_builtin
             refine wpList_ape rfl (.tmp 28) (.tmp 31) rfl w1.heap.size _ (c + 1) (L.take c ++ [En.mk s i]) rfl HO5.out (some ⟨b, off, none⟩) 0 0 [] rfl HM5.out (fun h => by cases h) (by omega) (by omega) w1 HB5.out ?_
             intro v6 w6 ho6 hb6
             have HO6 := Lib.hid ho6
             have HB6 := Lib.hid hb6
             clear ho6 hb6))
        go_ret
        have hww : w.heap.size ≤ w1.heap.size := HB1.out.size
        have hfin := HO6.out.lower hww
        have e : L.take c ++ [En.mk s i] ++ [] = eput L ⟨s, i⟩ := by rw [← hres.out, hdr]; simp
        rw [e] at hfin
        refine ⟨_, rfl, ?_, HB1.out.trans (HB6.out.mono hww)⟩
        rw [hfin.len]
        exact hfin
      · have hcn2 : ¬ (c = k) := hcn
        have HD := Lib.hid (show Ens w1 (some ⟨b, off + k * 2, none⟩) (n - k) (L.drop k) from HH1.out.drop)
        go_wp2_with (first
          | (at_builtin
             refine wpList_ape rfl (.tmp 16) (.tmp 19) rfl w1.heap.size _ 0 [] rfl HO.out (some ⟨b, off, none⟩) k c (L.take k) rfl HT.out (fun h => by cases h) (by omega) (by simp) w1 HB2.out ?_
             intro v4 w4 ho4 hb4
             have c0 := (hb4.cell (p := ⟨w.heap.size, 0, none⟩) HC.out.2.2).trans HC.out.1
             have c1 := (hb4.cell (p := ⟨w.heap.size, 1, none⟩) HC.out.2.2).trans HC.out.2.1
             rw [Nat.zero_add, List.nil_append] at ho4
             have HO4 := Lib.hid (ho4.alloc (.cells #[.string s, .int .i64 i] 36 (0, 0)))
             have HM4 := Lib.hid (ens_one (w := w4) (g := w4.heap.size) s i rfl)
             have HB4 := Lib.hid (hb4.alloc hb4.size (.cells #[.string s, .int .i64 i] 36 (0, 0)))
             have hsz4 := hb4.size
             clear ho4 hb4)
          | (at_builtin
             refine wpList_ape rfl (.tmp 21) (.tmp 23) rfl w1.heap.size _ k (L.take k) rfl HO4.out (some ⟨w4.heap.size, 0, none⟩) 1 1 [En.mk s i] rfl HM4.out (fun h => by cases h) (by omega) (by simp; omega) w1 HB4.out ?_
             intro v5 w5 ho5 hb5
             have HO5 := Lib.hid ho5
             have HB5 := Lib.hid hb5
             have HM5 := Lib.hid (HD.out.below (Nat.le_refl _) hb5)
             have hsz5 := hb5.size
             clear ho5 hb5)
          | (at_builtin
             refine wpList_ape rfl (.tmp 28) (.tmp 31) rfl w1.heap.size _ (k + 1) (L.take k ++ [En.mk s i]) rfl HO5.out (some ⟨b, off + k * 2, none⟩) (n - k) (c - k) (L.drop k) rfl HM5.out (fun h => by cases h) (by omega) (by omega) w1 HB5.out ?_
             intro v6 w6 ho6 hb6
             have HO6 := Lib.hid ho6
             have HB6 := Lib.hid hb6
             clear ho6 hb6))
        go_ret
        have hww : w.heap.size ≤ w1.heap.size := HB1.out.size
        have hfin := HO6.out.lower hww
        have e : L.take k ++ [En.mk s i] ++ (L.drop k) = eput L ⟨s, i⟩ := by rw [← hres.out]; simp
        rw [e] at hfin
        refine ⟨_, rfl, ?_, HB1.out.trans (HB6.out.mono hww)⟩
        rw [hfin.len]
        exact hfin
end Go.Proofs.Ytiedapiepklhlaa
