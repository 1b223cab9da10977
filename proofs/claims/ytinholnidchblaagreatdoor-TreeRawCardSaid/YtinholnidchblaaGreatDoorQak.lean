import Derived.Test.YtinholnidchblaaGreatDoorQaj
import Derived.Test.YtinholnidchblaaGreatDoorQaf
import Derived.Test.YtinholnidchblaaGreatDoorQai
import Derived.Test.YtinholnidchblaaGreatDoorQah
set_option linter.unusedVariables false
set_option linter.unusedSimpArgs false
set_option maxRecDepth 100000
set_option maxHeartbeats 16000000
namespace Go.Proofs.YtinholnidchblaaGreatDoor
open Go.RowKit
def OpZ (w : World) (wb g : Nat) (r : List Nd × Rv) (e : Ending) (w' : World) : Prop :=
 if r.2.err = 0 then e = .returned (.int .i64 r.2.sz) ∧ ∃ g' n' c' f', Wo w' wb g' n' c' f' ∧ ndL f' n' = r.1 ∧ Turn (WM g wb) w w' ∧ (g' = g ∨ w.heap.size ≤ g')
 else e = .panicked [pe r.2.err] ∧ Turn (WM g wb) w w'
theorem OpZ.bad' {w w' : World} {wb g : Nat} {R : List Nd × Rv} {L : List Nd} {x : Int} (hR : R = (L, .bad x)) (hx : x ≠ 0) (ht : Turn (WM g wb) w w') : OpZ w wb g R (.panicked [pe x]) w' := by
 rw [hR]
 unfold OpZ
 rw [if_neg (show ¬ (Rv.bad x).err = 0 from hx)]
 exact ⟨rfl, ht⟩
theorem OpZ.good {w w' : World} {wb g n' c' : Nat} {f' : Nat → Nc} {R : List Nd × Rv} {L : List Nd} {x : Int} (hR : R = (L, ⟨0, [], [], 0, 0, x⟩)) (h : Wo w' wb g n' c' f') (hL : ndL f' n' = L) (ht : Turn (WM g wb) w w') : OpZ w wb g R (.returned (.int .i64 x)) w' := by
 rw [hR]
 unfold OpZ
 rw [if_pos rfl]
 exact ⟨rfl, g, n', c', f', h, hL, ht, .inl rfl⟩
theorem bys_turn7 {w w' : World} {g : Nat} {a : Option Addr} {n : Nat} {zs : List Int} (h : Bys w a n zs ∧ (0 < n → ∀ b off, a = some ⟨b, off, none⟩ → b ≠ g)) (ht : Turn (· = g) w w') : Bys w' a n zs := bys_turn0 h.1 ht h.2
theorem write_nums {I m dn : Nat} (h : I + m ≤ 46368) (hd : dn ≤ 46368) : ∃ S : Nat, wrap64 ((I : Int) + (m : Int)) = (I : Int) + (m : Int) ∧ IntKind.i64.wrap ((I : Int) + (m : Int)) = (I : Int) + (m : Int) ∧ max (dn : Int) ((I : Int) + (m : Int)) = (S : Int) ∧ S = max dn (I + m) := by
 obtain ⟨S, hS⟩ : ∃ S : Nat, S = max dn (I + m) := ⟨_, rfl⟩
 exact ⟨S, wrap64_id _ (by omega), by rw [IntKind.wrap_i64]; omega, by omega, hS⟩
theorem pad_wri {zs xs : List Int} {I m S : Nat} (hx : xs.length = m) (h0 : m ≠ 0) (hS : S = max zs.length (I + m)) : (padL zs S).take I ++ xs ++ (padL zs S).drop (I + m) = wriB zs I xs := by
 have hne : xs ≠ [] := fun e => h0 (by rw [← hx, e]; rfl)
 have e : padL zs S = fitB zs (max zs.length (I + xs.length)) := by
  rw [hx, ← hS]
  have := pad_fit (zs := zs) (p := zs.length) (m := S) (by omega)
  rw [List.take_length] at this
  exact this
 rw [wriB, if_neg hne, e, hx]
theorem wri_all {zs xs : List Int} (h1 : AllB zs) (h2 : AllB xs) (I : Nat) : AllB (wriB zs I xs) := by
 unfold wriB
 split
 ·exact h1
 ·exact (((fit_all h1 _).take _).app h2).app ((fit_all h1 _).drop _)
section
variable {w : World} {wb g n c : Nat} {f : Nat → Nc}
theorem write_err (h : Wr w wb (some ⟨g, 0, none⟩) n c f) (s : ByteArray) (i x : Int) (ad : Option Addr) (m cc : Nat) (hx : x ≠ 0) (L : List Nd)
  (hfa : ∀ w', Wr w' wb (some ⟨g, 0, none⟩) n c f → Calls Tryz.prog 104 #[.pointer (some ⟨wb, 0, none⟩), .string s] w' fun e w'' => e = .panicked [pe x] ∧ Below w'.heap.size w' w'') :
  Calls Tryz.prog 69 #[.pointer (some ⟨wb, 0, none⟩), .string s, .int .i64 i, .slice ad m cc] w (OpZ w wb g (L, .bad x)) := by
 have c0 := h.c0
 have hfd := hfa _ (h.next (below_drewN (Below.refl _ _) 1))
 have HX := qH hx
 clear h hfa hx
 go_enter Tryz.func69, Tryz.ntmps69
 go_wp2_with fail
 refine wp_region_held_drew (S := (fun w' => w'.cell? ⟨wb, 0, none⟩ = some (.slice (some ⟨g, 0, none⟩) n c))) (by kernel_rfl) ?_ (fun hHeld => ?_)
 ·exact c0
 refine rgZ 0 ?_ rfl (.inl ⟨by rfl, fun w hSw => ?_⟩) ?_ (by kernel_rfl) (fun _ _ _ h => h) (by assumption)
 rotate_left
 ·(try dsimp only at hSw); go_simp; try with_reducible rfl
 simp only [Act.put, rg]
 refine rgZ 1 ?_ rfl (.inl ⟨by rfl, fun w hSw => ?_⟩) ?_ (by kernel_rfl) (fun _ _ _ h => h) (by assumption)
 rotate_left
 ·(try dsimp only at hSw); go_simp; try with_reducible rfl
 simp only [Act.put, rg]
 refine rgZ 2 ?_ rfl (.inl ⟨by rfl, fun w hSw => ?_⟩) ?_ (by kernel_rfl) (fun _ _ _ h => h) (by assumption)
 rotate_left
 ·(try dsimp only at hSw); go_simp; try with_reducible rfl
 simp only [Act.put, rg]
 refine rgZ 3 ?_ rfl (.inl ⟨by rfl, fun w hSw => ?_⟩) ?_ (by kernel_rfl) (fun _ _ _ h => h) (by assumption)
 rotate_left
 ·(try dsimp only at hSw); go_simp; try with_reducible rfl
 simp only [Act.put, rg]
 refine rgZ 4 ?_ rfl (.inl ⟨by rfl, fun w hSw => ?_⟩) ?_ (by kernel_rfl) (fun _ _ _ h => h) (by assumption)
 rotate_left
 ·(try dsimp only at hSw); go_simp; try with_reducible rfl
 simp only [Act.put, rg]
 refine rgZ 5 ?_ rfl (.inl ⟨by rfl, fun w hSw => ?_⟩) ?_ (by kernel_rfl) (fun _ _ _ h => h) (by assumption)
 rotate_left
 ·(try dsimp only at hSw); go_simp; try with_reducible rfl
 simp only [Act.put, rg]
 refine rgZ 6 ?_ rfl (.inl ⟨by rfl, fun w hSw => ?_⟩) ?_ (by kernel_rfl) (fun _ _ _ h => h) (by assumption)
 rotate_left
 ·(try dsimp only at hSw); go_simp; try with_reducible rfl
 simp only [Act.put, rg]
 refine rgC 7 rfl (by kernel_rfl) (fun K hK => ?_)
 simp only [rg4, rg5, rg6]
 go_simp
 refine (hfd).mono ?_
 rintro e w3 ⟨rfl, hb3⟩
 go_wp2_with fail
 exact ⟨rfl, .bad' rfl HX.out (.belowW (below_drewN (Below.refl _ _) 1 |>.trans (hb3.mono (Nat.le_refl _))))⟩
theorem write_go (h : Wo w wb g n c f) (s : ByteArray) (i : Int) (ad : Option Addr) (m cc : Nat) (xs : List Int) (hxs : Pin w ad m cc xs) (hoff : Off m ad g wb) {k : Nat} (hk : k < n) (hn : n ≤ 1000000) (hl : (f k).d.length ≤ 46368) (hi9 : -9223372036854775808 ≤ i ∧ i ≤ 9223372036854775807)
  (hfa : ∀ w', Wr w' wb (some ⟨g, 0, none⟩) n c f → Calls Tryz.prog 104 #[.pointer (some ⟨wb, 0, none⟩), .string s] w' fun e w'' => e = .returned (.int .i64 (k : Int)) ∧ Below w'.heap.size w' w'') :
  Calls Tryz.prog 69 #[.pointer (some ⟨wb, 0, none⟩), .string s, .int .i64 i, .slice ad m cc] w
   (OpZ w wb g (if i < 0 ∨ 46368 < i + (m : Int) then (ndL f n, .bad 28) else (setD (ndL f n) k (wriB (f k).d i.toNat xs), ⟨0, [], [], 0, 0, (m : Int)⟩))) := by
 obtain ⟨z, hz⟩ : ∃ z : Nat, z = 0 := ⟨0, rfl⟩
 have c0 : w.cell? ⟨wb, 0, none⟩ = some (.slice (some ⟨g, z, none⟩) n c) := by rw [hz]; exact h.wr.c0
 have hwd := h.drew 1
 have hfd := hfa _ hwd.wr
 obtain ⟨R, hR⟩ : ∃ R, R = (if i < 0 ∨ 46368 < i + (m : Int) then (ndL f n, .bad 28) else (setD (ndL f n) k (wriB (f k).d i.toNat xs), ⟨0, [], [], 0, 0, (m : Int)⟩) : List Nd × Rv) := ⟨_, rfl⟩
 rw [← hR]
 have HR := qH hR
 have k0 : (0 : Int) ≤ (k : Int) := by omega
 have k1 : (k : Int) < (n : Int) := by omega
 have hcm := hxs.cap
 have hmx := hxs.max
 have H := qH hwd
 have HZ := qH hz
 have HK := qH hk
 have HL := qH hl
 have HXD := qH (hxs.drewN 1)
 have HOF := qH hoff
 have HM9 := qH (show m ≤ 9223372036854775807 by omega)
 clear h hfa hR hz hwd hl hn hxs hoff hcm hmx
 go_enter Tryz.func69, Tryz.ntmps69
 go_wp2_with fail
 refine wp_region_held_drew (S := (fun w' => w'.cell? ⟨wb, 0, none⟩ = some (.slice (some ⟨g, z, none⟩) n c))) (by kernel_rfl) ?_ (fun hHeld => ?_)
 ·exact c0
 refine rgZ 0 ?_ rfl (.inl ⟨by rfl, fun w hSw => ?_⟩) ?_ (by kernel_rfl) (fun _ _ _ h => h) (by assumption)
 rotate_left
 ·(try dsimp only at hSw); go_simp; try with_reducible rfl
 simp only [Act.put, rg]
 refine rgZ 1 ?_ rfl (.inl ⟨by rfl, fun w hSw => ?_⟩) ?_ (by kernel_rfl) (fun _ _ _ h => h) (by assumption)
 rotate_left
 ·(try dsimp only at hSw); go_simp; try with_reducible rfl
 simp only [Act.put, rg]
 refine rgZ 2 ?_ rfl (.inl ⟨by rfl, fun w hSw => ?_⟩) ?_ (by kernel_rfl) (fun _ _ _ h => h) (by assumption)
 rotate_left
 ·(try dsimp only at hSw); go_simp; try with_reducible rfl
 simp only [Act.put, rg]
 refine rgZ 3 ?_ rfl (.inl ⟨by rfl, fun w hSw => ?_⟩) ?_ (by kernel_rfl) (fun _ _ _ h => h) (by assumption)
 rotate_left
 ·(try dsimp only at hSw); go_simp; try with_reducible rfl
 simp only [Act.put, rg]
 refine rgZ 4 ?_ rfl (.inl ⟨by rfl, fun w hSw => ?_⟩) ?_ (by kernel_rfl) (fun _ _ _ h => h) (by assumption)
 rotate_left
 ·(try dsimp only at hSw); go_simp; try with_reducible rfl
 simp only [Act.put, rg]
 refine rgZ 5 ?_ rfl (.inl ⟨by rfl, fun w hSw => ?_⟩) ?_ (by kernel_rfl) (fun _ _ _ h => h) (by assumption)
 rotate_left
 ·(try dsimp only at hSw); go_simp; try with_reducible rfl
 simp only [Act.put, rg]
 refine rgZ 6 ?_ rfl (.inl ⟨by rfl, fun w hSw => ?_⟩) ?_ (by kernel_rfl) (fun _ _ _ h => h) (by assumption)
 rotate_left
 ·(try dsimp only at hSw); go_simp; try with_reducible rfl
 simp only [Act.put, rg]
 refine rgC 7 rfl (by kernel_rfl) (fun K hK => ?_)
 simp only [rg4, rg5, rg6]
 go_simp
 refine (hfd).mono ?_
 rintro e w3 ⟨rfl, hb3⟩
 have H3 := qH (H.out.next hb3)
 have HX3 := qH (HXD.out.next hb3)
 have hS3 : w3.cell? ⟨wb, 0, none⟩ = some (.slice (some ⟨g, z, none⟩) n c) := by rw [HZ.out]; exact H3.out.wr.c0
 have HB3 := qH ((below_drewN (Below.refl w.heap.size w) 1).trans (hb3.mono (Nat.le_refl _)))
 clear hfd hb3 c0
 go_wp2_with fail
 refine hK.out _ _ hS3 (fun hHeld => ?_)
 clear hK K
 refine rgZ 8 ?_ rfl (.inl ⟨by rfl, fun w hSw => ?_⟩) ?_ (by kernel_rfl) (fun _ _ _ h => h) (by assumption)
 rotate_left
 ·(try dsimp only at hSw); go_simp; try with_reducible rfl
 simp only [Act.put, rg]
 refine rgZ 9 ?_ rfl (.inl ⟨by rfl, fun w hSw => ?_⟩) ?_ (by kernel_rfl) (fun _ _ _ h => h) (by assumption)
 rotate_left
 ·(try dsimp only at hSw); go_simp; try with_reducible rfl
 simp only [Act.put, rg]
 refine wpAnyH_done (by kernel_rfl) ?_ _
 clear hS3 hHeld k0 k1
 by_cases hm0 : i < 0
 ·have i0 : decide (i < 0) = true := decide_eq_true hm0
  have HR2 : Hid (R = (ndL f n, .bad 28)) := qH (by rw [HR.out, if_pos (.inl hm0)])
  clear hm0
  go_wp2_with fail
  refine (refuse_yes 28 _).mono ?_
  rintro e w4 ⟨rfl, rfl⟩
  go_wp2_with fail
  exact ⟨rfl, .bad' HR2.out (by decide) (.belowW HB3.out)⟩
 ·have e1 : wrap64 (46368 - (m : Int)) = 46368 - (m : Int) := wrap64_id _ (by have := HM9.out; omega)
  by_cases hm1 : 46368 < i + (m : Int)
  ·have i0 : decide (i < 0) = false := decide_eq_false hm0
   have i1 : decide (46368 - (m : Int) < i) = true := decide_eq_true (by omega); have HR2 : Hid (R = (ndL f n, .bad 28)) := qH (by rw [HR.out, if_pos (.inr hm1)]); clear hm0 hm1; go_wp2_with fail; refine (refuse_yes 28 _).mono ?_; rintro e w4 ⟨rfl, rfl⟩; go_wp2_with fail
   exact ⟨rfl, .bad' HR2.out (by decide) (.belowW HB3.out)⟩
  ·have i0 : decide (i < 0) = false := decide_eq_false hm0
   have i1 : decide (46368 - (m : Int) < i) = false := decide_eq_false (by omega)
   obtain ⟨I, rfl⟩ : ∃ I : Nat, i = (I : Int) := ⟨i.toNat, by omega⟩
   have HM := qH (show I + m ≤ 46368 by omega); have HR2 : Hid (R = (setD (ndL f n) k (wriB (f k).d I xs), ⟨0, [], [], 0, 0, (m : Int)⟩)) := qH (by rw [HR.out, if_neg (by omega)]; rfl); clear hm0 hm1 hi9
   by_cases hm00 : m = 0
   ·subst hm00
    have i2 : decide ((46368 : Int) < (I : Int)) = false := decide_eq_false (by have := HM.out; omega); have HX0 := qH (show xs = [] from List.eq_nil_of_length_eq_zero HX3.out.len); go_wp2_with fail; refine (refuse_no 28 _).mono ?_; rintro e w4 ⟨rfl, rfl⟩; clear i0 i1 i2 e1; go_wp2_with fail; go_ret; refine OpZ.good HR2.out H3.out ?_ (.belowW HB3.out); rw [HX0.out, wriB, if_pos rfl]; have hse := set_self (L := ndL f n) (a := k) (by rw [ndL_len]; exact HK.out); rw [setD]; rw [nat_ndL HK.out] at hse ⊢
    exact hse.symm
   ·have hm00' : ¬ (m : Int) = 0 := by omega
    go_wp2_with fail; refine (refuse_no 28 _).mono ?_; rintro e w4 ⟨rfl, rfl⟩; clear i0 i1 e1; have hpn := H3.out.data k HK.out; have hlen := hpn.1.len; obtain ⟨S, e2, e4, e3, hS⟩ := write_nums (dn := (f k).dn) HM.out (by have := HL.out; omega); have HSI := qH (show I + m ≤ S ∧ 0 < m ∧ S ≤ 46368 by have := HM.out; have := HL.out; omega); have HLS := qH (show (padL (f k).d S).length = S from padL_len (by omega)); have HW1 := qH (pad_wri (zs := (f k).d) (xs := xs) (I := I) (m := m) (S := S) HX3.out.len (by omega) (by rw [hlen]; exact hS))
    have d2 : w4.drew.cell? ⟨g, z + k * 4 + 2, none⟩ = some (.slice (f k).da (f k).dn (f k).dc) := by rw [HZ.out]; exact (H3.out.cell HK.out).2.2.1
    have hpd := padded_any (f k).da (f k).dn (f k).dc S (f k).d w4.drew (hpn.1.bys.drewN 1) (by omega) (by have := HSI.out; omega); have HXS : Hid (Bys w4.drew ad m xs ∧ (0 < m → ∀ b off, ad = some ⟨b, off, none⟩ → b ≠ g)) := qH ⟨HX3.out.bys.drewN 1, fun h0 b off e => (HOF.out h0 b off e).1⟩; have HAL := qH (hpn.1.bys.small); have HAX := qH (HX3.out.bys.small); have HLX := qH HX3.out.len; have H4 : Hid (Wo w4.drew wb g n c f) := qH (H3.out.drew 1); have HB4 : Hid (Below w.heap.size w w4.drew) := qH (below_drewN HB3.out 1); clear hpn hlen hS hm00; go_wp2_with fail; refine wp_region_held_drew (S := fun _ => True) (by kernel_rfl) trivial (fun _ => ?_)
    generalize hw5 : w4.drew = w5 at *
    clear hw5; refine rgZ 0 ?_ rfl (.inl ⟨by rfl, fun w hSw => ?_⟩) ?_ (by kernel_rfl) (fun _ _ _ h => h) (by assumption); rotate_left
    ·(try dsimp only at hSw); go_simp; try with_reducible rfl
    simp only [Act.put, rg]; refine rgZ 1 ?_ rfl (.inl ⟨by rfl, fun w hSw => ?_⟩) ?_ (by kernel_rfl) (fun _ _ _ h => h) (by assumption); rotate_left
    ·(try dsimp only at hSw); go_simp; try with_reducible rfl
    simp only [Act.put, rg]; refine rgZ 2 ?_ rfl (.inl ⟨by rfl, fun w hSw => ?_⟩) ?_ (by kernel_rfl) (fun _ _ _ h => h) (by assumption); rotate_left
    ·(try dsimp only at hSw); go_simp; try with_reducible rfl
    simp only [Act.put, rg]; refine rgZ 3 ?_ rfl (.inl ⟨by rfl, fun w hSw => ?_⟩) ?_ (by kernel_rfl) (fun _ _ _ h => h) (by assumption); rotate_left
    ·(try dsimp only at hSw); go_simp; try with_reducible rfl
    simp only [Act.put, rg]; refine rgZ 5 ?_ rfl (.inl ⟨by rfl, fun w hSw => ?_⟩) ?_ (by kernel_rfl) (fun _ _ _ h => h) (by assumption); rotate_left
    ·(try dsimp only at hSw); go_simp; try with_reducible rfl
    simp only [Act.put, rg]; refine rgZ 6 ?_ rfl (.inl ⟨by rfl, fun w hSw => ?_⟩) ?_ (by kernel_rfl) (fun _ _ _ h => h) (by assumption); rotate_left
    ·(try dsimp only at hSw); go_simp; try with_reducible rfl
    simp only [Act.put, rg]; refine rgZ 7 ?_ rfl (.inl ⟨by rfl, fun w hSw => ?_⟩) ?_ (by kernel_rfl) (fun _ _ _ h => h) (by assumption); rotate_left
    ·(try dsimp only at hSw); go_simp; try with_reducible rfl
    simp only [Act.put, rg]; refine rgZ 10 ?_ rfl (.inl ⟨by rfl, fun w hSw => ?_⟩) ?_ (by kernel_rfl) (fun _ _ _ h => h) (by assumption); rotate_left
    ·(try dsimp only at hSw); go_simp; try with_reducible rfl
    simp only [Act.put, rg]; refine rgZ 11 ?_ rfl (.inl ⟨by rfl, fun w hSw => ?_⟩) ?_ (by kernel_rfl) (fun _ _ _ h => h) (by assumption); rotate_left
    ·(try dsimp only at hSw); go_simp; try with_reducible rfl
    simp only [Act.put, rg]; refine rgZ 12 ?_ rfl (.inl ⟨by rfl, fun w hSw => ?_⟩) ?_ (by kernel_rfl) (fun _ _ _ h => h) (by assumption); rotate_left
    ·(try dsimp only at hSw); go_simp; try with_reducible rfl
    simp only [Act.put, rg]; refine rgZ 13 ?_ rfl (.inl ⟨by rfl, fun w hSw => ?_⟩) ?_ (by kernel_rfl) (fun _ _ _ h => h) (by assumption); rotate_left
    ·(try dsimp only at hSw); go_simp; try with_reducible rfl
    simp only [Act.put, rg]; refine wpAnyH_ready (rs := [4, 8]) (by kernel_rfl) (by simp) ?_; refine AllReadyH.cons rfl (fun K hK => ?_) (AllReadyH.cons rfl (fun K hK => ?_) AllReadyH.nil)
    ·simp only [rg4, rg5, rg6]
     go_simp; refine hK.out _ _ trivial (fun _ => ?_); clear hK K; refine rgC 8 rfl (by kernel_rfl) (fun K hK => ?_); simp only [rg4, rg5, rg6]; go_simp; refine hK.out _ _ trivial (fun _ => ?_); clear hK K; refine rgZ 9 ?_ rfl (.inl ⟨by rfl, fun w hSw => ?_⟩) ?_ (by kernel_rfl) (fun _ _ _ h => h) (by assumption); rotate_left
     ·(try dsimp only at hSw); go_simp; try with_reducible rfl
     simp only [Act.put, rg]; refine rgZ 14 ?_ rfl (.inl ⟨by rfl, fun w hSw => ?_⟩) ?_ (by kernel_rfl) (fun _ _ _ h => h) (by assumption); rotate_left
     ·(try dsimp only at hSw); go_simp; try with_reducible rfl
     simp only [Act.put, rg]; refine rgC 15 rfl (by kernel_rfl) (fun K hK => ?_); simp only [rg4, rg5, rg6]; go_simp; refine hpd.mono ?_; rintro e w6 ⟨rfl, hblk, hb6⟩; have H6 := H4.out.next hb6; have hfr := H6.free (z + k * 4 + 2); have d6 := (hb6.cell (p := ⟨g, z + k * 4 + 2, none⟩) (row_lt H4.out.row)).trans d2
     obtain ⟨pb, hpb⟩ : ∃ pb, pb = w5.heap.size := ⟨_, rfl⟩
     rw [← hpb] at hblk; have HPB := qH hpb; have HGL := qH (show g < pb by rw [hpb]; exact row_lt H4.out.row); have HWL := qH (show wb < pb by rw [hpb]; exact H4.out.wr.lt); have HT7 : Hid (Turn (· = g) w5 (w6.setCell ⟨g, z + k * 4 + 2, none⟩ (.slice (some ⟨pb, 0, none⟩) S S))) := qH ((Turn.of_below (M := (· = g)) hb6).setO (p := ⟨g, z + k * 4 + 2, none⟩) rfl _); have HB7 : Hid (Blk (w6.setCell ⟨g, z + k * 4 + 2, none⟩ (.slice (some ⟨pb, 0, none⟩) S S)) pb (padL (f k).d S)) := qH ⟨(Below.heap_setCell _ _ _ _ (by have := HGL.out; show pb ≠ g; omega)).trans hblk.row⟩; have HG7 : Hid ((w6.setCell ⟨g, z + k * 4 + 2, none⟩ (.slice (some ⟨pb, 0, none⟩) S S)).heap[g]? = (w5.setCell ⟨g, z + k * 4 + 2, none⟩ (.slice (some ⟨pb, 0, none⟩) S S)).heap[g]?) := qH (setCell_heap _ (hb6.block g (row_lt H4.out.row))); have HC7 : Hid ((w6.setCell ⟨g, z + k * 4 + 2, none⟩ (.slice (some ⟨pb, 0, none⟩) S S)).cell? ⟨g, z + k * 4 + 2, none⟩ = some (.slice (some ⟨pb, 0, none⟩) S S)) := qH (World.cell?_setCell_same _ _ _ d6); clear hpd hblk hb6 H6 d2; go_wp2_with fail; rw [← hpb]; clear hpb; refine hK.out _ _ trivial (fun _ => ?_); clear hK K; refine rgZ 16 ?_ rfl (.inl ⟨by rfl, fun w hSw => ?_⟩) ?_ (by kernel_rfl) (fun _ _ _ h => h) (by assumption); rotate_left
     ·(try dsimp only at hSw); go_simp; try with_reducible rfl
     simp only [Act.put, rg]; refine rgZ 17 ?_ rfl (.inl ⟨by rfl, fun w hSw => ?_⟩) ?_ (by kernel_rfl) (fun _ _ _ h => h) (by assumption); rotate_left
     ·(try dsimp only at hSw); go_simp; try with_reducible rfl
     simp only [Act.put, rg]; refine rgC 18 rfl (by kernel_rfl) (fun K hK => ?_); simp only [rg4, rg5, rg6]; go_simp; refine hK.out _ _ trivial (fun _ => ?_); clear hK K; refine wpAnyH_done (by kernel_rfl) ?_ _; have c7 := HC7.out; have t7 := HT7.out; have b7 := HB7.out; have g7 := HG7.out
     generalize hw7 : w6.setCell ⟨g, z + k * 4 + 2, none⟩ (.slice (some ⟨pb, 0, none⟩) S S) = w7 at *
     have HX7 := qH t7; have HY7 := qH b7; have HZ7 := qH g7; clear hw7 d6 hfr HC7 HT7 HB7 HG7 t7 b7 g7 e2 e3 e4
     have s0 : (0 : Int) ≤ (I : Int) := by omega
     have s1 : (I : Int) ≤ (S : Int) := by have := HSI.out; omega
     have s2 : ¬ S = I := by have := HSI.out; omega
     go_wp2_with (with_reducible refine wpList_cpo rfl (.tmp 55) (.tmp 56) rfl pb I (S - I) (S - I) m cc ad rfl rfl (padL (f k).d S) xs HY7.out (bys_turn7 HXS.out HX7.out) (by have := HSI.out; rw [HLS.out]; omega) (by have := HSI.out; omega) pb w7 (Below.refl _ _) (Nat.le_refl _) ?_; intro w8 hb8 hl8)
     go_wp2_with fail; go_ret; refine ?_; have hb9 := hb8; rw [HW1.out] at hb9
     have hT : Turn (· = g) w5 w8 := ⟨hl8.os.trans HX7.out.os, hl8.tape.trans HX7.out.tape, hl8.output.trans HX7.out.output, Nat.le_trans HX7.out.size hl8.size, fun j hj hm => (hl8.block j (by rw [HPB.out]; exact hj)).trans (HX7.out.block j hj hm)⟩
     have hpin : Pin w8 (some ⟨pb, 0, none⟩) S S (wriB (f k).d I xs) := ⟨hb9.bysn (wri_all HAL.out HAX.out I) (by have := HLS.out; have := congrArg List.length HW1.out; simp only [List.length_append, List.length_take, List.length_drop] at this; have := HSI.out; have := HLX.out; omega), fun e => (by cases e), Nat.le_refl _, by have := HSI.out; omega⟩
     have hW := H4.out.setD2 HK.out hT (by rw [HZ.out] at HZ7; exact (hl8.block g HGL.out).trans HZ7.out) hpin (Off.new (B := pb) (fun p hp => by cases hp; exact Nat.le_refl _) HGL.out HWL.out)
     exact OpZ.good HR2.out hW (ndL_setD HK.out _ _ _ _) ((Turn.belowW HB4.out).trans (hT.mono fun j hj => .inl hj))
    ·simp only [rg4, rg5, rg6]
     go_simp; refine hK.out _ _ trivial (fun _ => ?_); clear hK K; refine rgZ 9 ?_ rfl (.inl ⟨by rfl, fun w hSw => ?_⟩) ?_ (by kernel_rfl) (fun _ _ _ h => h) (by assumption); rotate_left
     ·(try dsimp only at hSw); go_simp; try with_reducible rfl
     simp only [Act.put, rg]; refine rgZ 14 ?_ rfl (.inl ⟨by rfl, fun w hSw => ?_⟩) ?_ (by kernel_rfl) (fun _ _ _ h => h) (by assumption); rotate_left
     ·(try dsimp only at hSw); go_simp; try with_reducible rfl
     simp only [Act.put, rg]; refine rgC 4 rfl (by kernel_rfl) (fun K hK => ?_); simp only [rg4, rg5, rg6]; go_simp; refine hK.out _ _ trivial (fun _ => ?_); clear hK K; refine rgC 15 rfl (by kernel_rfl) (fun K hK => ?_); simp only [rg4, rg5, rg6]; go_simp; refine hpd.mono ?_; rintro e w6 ⟨rfl, hblk, hb6⟩; have H6 := H4.out.next hb6; have hfr := H6.free (z + k * 4 + 2); have d6 := (hb6.cell (p := ⟨g, z + k * 4 + 2, none⟩) (row_lt H4.out.row)).trans d2
     obtain ⟨pb, hpb⟩ : ∃ pb, pb = w5.heap.size := ⟨_, rfl⟩
     rw [← hpb] at hblk; have HPB := qH hpb; have HGL := qH (show g < pb by rw [hpb]; exact row_lt H4.out.row); have HWL := qH (show wb < pb by rw [hpb]; exact H4.out.wr.lt); have HT7 : Hid (Turn (· = g) w5 (w6.setCell ⟨g, z + k * 4 + 2, none⟩ (.slice (some ⟨pb, 0, none⟩) S S))) := qH ((Turn.of_below (M := (· = g)) hb6).setO (p := ⟨g, z + k * 4 + 2, none⟩) rfl _); have HB7 : Hid (Blk (w6.setCell ⟨g, z + k * 4 + 2, none⟩ (.slice (some ⟨pb, 0, none⟩) S S)) pb (padL (f k).d S)) := qH ⟨(Below.heap_setCell _ _ _ _ (by have := HGL.out; show pb ≠ g; omega)).trans hblk.row⟩; have HG7 : Hid ((w6.setCell ⟨g, z + k * 4 + 2, none⟩ (.slice (some ⟨pb, 0, none⟩) S S)).heap[g]? = (w5.setCell ⟨g, z + k * 4 + 2, none⟩ (.slice (some ⟨pb, 0, none⟩) S S)).heap[g]?) := qH (setCell_heap _ (hb6.block g (row_lt H4.out.row))); have HC7 : Hid ((w6.setCell ⟨g, z + k * 4 + 2, none⟩ (.slice (some ⟨pb, 0, none⟩) S S)).cell? ⟨g, z + k * 4 + 2, none⟩ = some (.slice (some ⟨pb, 0, none⟩) S S)) := qH (World.cell?_setCell_same _ _ _ d6); clear hpd hblk hb6 H6 d2; go_wp2_with fail; rw [← hpb]; clear hpb; refine hK.out _ _ trivial (fun _ => ?_); clear hK K; refine rgZ 16 ?_ rfl (.inl ⟨by rfl, fun w hSw => ?_⟩) ?_ (by kernel_rfl) (fun _ _ _ h => h) (by assumption); rotate_left
     ·(try dsimp only at hSw); go_simp; try with_reducible rfl
     simp only [Act.put, rg]; refine rgZ 17 ?_ rfl (.inl ⟨by rfl, fun w hSw => ?_⟩) ?_ (by kernel_rfl) (fun _ _ _ h => h) (by assumption); rotate_left
     ·(try dsimp only at hSw); go_simp; try with_reducible rfl
     simp only [Act.put, rg]; refine rgC 18 rfl (by kernel_rfl) (fun K hK => ?_); simp only [rg4, rg5, rg6]; go_simp; refine hK.out _ _ trivial (fun _ => ?_); clear hK K; refine wpAnyH_done (by kernel_rfl) ?_ _; have c7 := HC7.out; have t7 := HT7.out; have b7 := HB7.out; have g7 := HG7.out
     generalize hw7 : w6.setCell ⟨g, z + k * 4 + 2, none⟩ (.slice (some ⟨pb, 0, none⟩) S S) = w7 at *
     have HX7 := qH t7; have HY7 := qH b7; have HZ7 := qH g7; clear hw7 d6 hfr HC7 HT7 HB7 HG7 t7 b7 g7 e2 e3 e4
     have s0 : (0 : Int) ≤ (I : Int) := by omega
     have s1 : (I : Int) ≤ (S : Int) := by have := HSI.out; omega
     have s2 : ¬ S = I := by have := HSI.out; omega
     go_wp2_with (with_reducible refine wpList_cpo rfl (.tmp 55) (.tmp 56) rfl pb I (S - I) (S - I) m cc ad rfl rfl (padL (f k).d S) xs HY7.out (bys_turn7 HXS.out HX7.out) (by have := HSI.out; rw [HLS.out]; omega) (by have := HSI.out; omega) pb w7 (Below.refl _ _) (Nat.le_refl _) ?_; intro w8 hb8 hl8)
     go_wp2_with fail; go_ret; refine ?_; have hb9 := hb8; rw [HW1.out] at hb9
     have hT : Turn (· = g) w5 w8 := ⟨hl8.os.trans HX7.out.os, hl8.tape.trans HX7.out.tape, hl8.output.trans HX7.out.output, Nat.le_trans HX7.out.size hl8.size, fun j hj hm => (hl8.block j (by rw [HPB.out]; exact hj)).trans (HX7.out.block j hj hm)⟩
     have hpin : Pin w8 (some ⟨pb, 0, none⟩) S S (wriB (f k).d I xs) := ⟨hb9.bysn (wri_all HAL.out HAX.out I) (by have := HLS.out; have := congrArg List.length HW1.out; simp only [List.length_append, List.length_take, List.length_drop] at this; have := HSI.out; have := HLX.out; omega), fun e => (by cases e), Nat.le_refl _, by have := HSI.out; omega⟩
     have hW := H4.out.setD2 HK.out hT (by rw [HZ.out] at HZ7; exact (hl8.block g HGL.out).trans HZ7.out) hpin (Off.new (B := pb) (fun p hp => by cases hp; exact Nat.le_refl _) HGL.out HWL.out)
     exact OpZ.good HR2.out hW (ndL_setD HK.out _ _ _ _) ((Turn.belowW HB4.out).trans (hT.mono fun j hj => .inl hj))
theorem write_any (h : Wo w wb g n c f) (ht : Rgt (ndL f n)) (s : ByteArray) (hs : s.size < 4294967281) (i : Int) (hi9 : -9223372036854775808 ≤ i ∧ i ≤ 9223372036854775807) (ad : Option Addr) (m cc : Nat) (xs : List Int) (hxs : Pin w ad m cc xs) (hoff : Off m ad g wb) :
  Calls Tryz.prog 69 #[.pointer (some ⟨wb, 0, none⟩), .string s, .int .i64 i, .slice ad m cc] w (OpZ w wb g (oWrite (ndL f n) (nms s) i xs)) := by
 have hfa := fun (w' : World) (h' : Wr w' wb (some ⟨g, 0, none⟩) n c f) => fileAt_any h' ht s hs
 unfold oWrite
 cases hfo : fileAt (ndL f n) (nms s) with
 | error x =>
  rw [hfo] at hfa
  exact write_err h.wr s i x ad m cc (fileAt_err hfo) _ hfa
 | ok k =>
  rw [hfo] at hfa
  obtain ⟨hk, hok⟩ := file_pin ht hfo
  simp only [nat_ndL hk, hxs.len]
  exact write_go h s i ad m cc xs hxs hoff hk (by have := ht.le; omega) hok.2.2 hi9 hfa
end
def nmL (E : List En) : List (List UInt8) := E.map fun y => y.s.data.toList
theorem nmL_map (E : List En) : (nmL E).map tx = E.map (·.s) := by
 simp only [nmL, List.map_map]
 exact List.map_congr_left fun y _ => tx_data _
theorem nmL_snoc {E : List En} {k : Nat} (h : k < E.length) : nmL (E.take k) ++ [(eat E k).s.data.toList] = nmL (E.take (k + 1)) := by
 have : E.take (k + 1) = E.take k ++ [eat E k] := by
  rw [List.take_add_one, List.getElem?_eq_getElem h]
  simp [eat, List.getD, h]
 rw [this]
 simp [nmL]
section
variable {w : World} {wb n c : Nat} {na : Option Addr} {f : Nat → Nc}
theorem list_err (h : Wr w wb na n c f) (s : ByteArray) (x : Int)
  (hfa : ∀ w', Wr w' wb na n c f → Calls Tryz.prog 106 #[.pointer (some ⟨wb, 0, none⟩), .string s] w' fun e w'' => e = .panicked [pe x] ∧ Below w'.heap.size w' w'') :
  Calls Tryz.prog 72 #[.pointer (some ⟨wb, 0, none⟩), .string s] w fun e w' => e = .panicked [pe x] ∧ Below w.heap.size w w' := by
 have c0 := h.c0
 have hfd := hfa _ (h.next (below_drewN (Below.refl _ _) 1))
 clear h hfa
 go_enter Tryz.func72, Tryz.ntmps72
 go_wp2_with fail
 refine wp_region_held_drew (S := (fun w' => w'.cell? ⟨wb, 0, none⟩ = some (.slice na n c))) (by kernel_rfl) ?_ (fun hHeld => ?_)
 ·exact c0
 refine rgZ 0 ?_ rfl (.inl ⟨by rfl, fun w hSw => ?_⟩) ?_ (by kernel_rfl) (fun _ _ _ h => h) (by assumption)
 rotate_left
 ·(try dsimp only at hSw); go_simp; try with_reducible rfl
 simp only [Act.put, rg]
 refine rgZ 1 ?_ rfl (.inl ⟨by rfl, fun w hSw => ?_⟩) ?_ (by kernel_rfl) (fun _ _ _ h => h) (by assumption)
 rotate_left
 ·(try dsimp only at hSw); go_simp; try with_reducible rfl
 simp only [Act.put, rg]
 refine rgZ 2 ?_ rfl (.inl ⟨by rfl, fun w hSw => ?_⟩) ?_ (by kernel_rfl) (fun _ _ _ h => h) (by assumption)
 rotate_left
 ·(try dsimp only at hSw); go_simp; try with_reducible rfl
 simp only [Act.put, rg]
 refine rgZ 3 ?_ rfl (.inl ⟨by rfl, fun w hSw => ?_⟩) ?_ (by kernel_rfl) (fun _ _ _ h => h) (by assumption)
 rotate_left
 ·(try dsimp only at hSw); go_simp; try with_reducible rfl
 simp only [Act.put, rg]
 refine rgZ 4 ?_ rfl (.inl ⟨by rfl, fun w hSw => ?_⟩) ?_ (by kernel_rfl) (fun _ _ _ h => h) (by assumption)
 rotate_left
 ·(try dsimp only at hSw); go_simp; try with_reducible rfl
 simp only [Act.put, rg]
 refine rgZ 5 ?_ rfl (.inl ⟨by rfl, fun w hSw => ?_⟩) ?_ (by kernel_rfl) (fun _ _ _ h => h) (by assumption)
 rotate_left
 ·(try dsimp only at hSw); go_simp; try with_reducible rfl
 simp only [Act.put, rg]
 refine rgZ 6 ?_ rfl (.inl ⟨by rfl, fun w hSw => ?_⟩) ?_ (by kernel_rfl) (fun _ _ _ h => h) (by assumption)
 rotate_left
 ·(try dsimp only at hSw); go_simp; try with_reducible rfl
 simp only [Act.put, rg]
 refine rgZ 12 ?_ rfl (.inl ⟨by rfl, fun w hSw => ?_⟩) ?_ (by kernel_rfl) (fun _ _ _ h => h) (by assumption)
 rotate_left
 ·(try dsimp only at hSw); go_simp; try with_reducible rfl
 simp only [Act.put, rg]
 refine rgC 7 rfl (by kernel_rfl) (fun K hK => ?_)
 simp only [rg4, rg5, rg6]
 go_simp
 refine (hfd).mono ?_
 rintro e w3 ⟨rfl, hb3⟩
 go_wp2_with fail
 exact ⟨rfl, rfl, (below_drewN (Below.refl _ _) 1 |>.trans (hb3.mono (Nat.le_refl _)))⟩
theorem list_ok (h : Wr w wb na n c f) (s : ByteArray) {k : Nat} (hk : k < n) (hn : n ≤ 1000000) (hl : (f k).e.length ≤ 100000) (hf : Fit (f k).e)
  (hfa : ∀ w', Wr w' wb na n c f → Calls Tryz.prog 106 #[.pointer (some ⟨wb, 0, none⟩), .string s] w' fun e w'' => e = .returned (.int .i64 (k : Int)) ∧ Below w'.heap.size w' w'') :
  Calls Tryz.prog 72 #[.pointer (some ⟨wb, 0, none⟩), .string s] w fun e w' => (∃ v, e = .returned v ∧ OwnT w' w.heap.size v (f k).e.length (nmL (f k).e)) ∧ Below w.heap.size w w' := by
 have c0 := h.c0
 have hP := (h.nds.ents k hk).ens
 obtain ⟨b, off, rfl, hb, d0, d1, d2, d3⟩ := h.nds.at hk
 have hlt := h.lt
 have k0 : (0 : Int) ≤ (k : Int) := by omega
 have k1 : (k : Int) < (n : Int) := by omega
 have hfd := hfa _ (h.next (below_drewN (Below.refl _ _) 1))
 have HP := qH (hP.drewN 1)
 have HLT := qH hlt
 have HBB := qH hb
 have HF := qH hf
 have hen := hP.len
 clear h hfa d0 d1 d2 hP hlt hb hf
 obtain ⟨E, hE⟩ : ∃ E, E = (f k).e := ⟨_, rfl⟩
 rw [← hE] at HP hl HF hen ⊢
 obtain ⟨ea, hea⟩ : ∃ x, x = (f k).ea := ⟨_, rfl⟩
 obtain ⟨en, hen'⟩ : ∃ x, x = (f k).en := ⟨_, rfl⟩
 obtain ⟨ec, hec⟩ : ∃ x, x = (f k).ec := ⟨_, rfl⟩
 rw [← hea, ← hen'] at HP
 rw [← hea, ← hen', ← hec] at d3
 rw [← hen'] at hen
 clear hE hea hen' hec
 subst hen
 go_enter Tryz.func72, Tryz.ntmps72
 go_wp2_with fail
 refine wp_region_held_drew (S := (fun w' => w'.cell? ⟨wb, 0, none⟩ = some (.slice (some ⟨b, off, none⟩) n c) ∧ w'.cell? ⟨b, off + k * 4 + 3, none⟩ = some (.slice ea E.length ec))) (by kernel_rfl) ?_ (fun hHeld => ?_)
 ·exact ⟨c0, d3⟩
 refine rgZ 0 ?_ rfl (.inl ⟨by rfl, fun w hSw => ?_⟩) ?_ (by kernel_rfl) (fun _ _ _ h => h) (by assumption)
 rotate_left
 ·(try dsimp only at hSw); go_simp; try with_reducible rfl
 simp only [Act.put, rg]
 refine rgZ 1 ?_ rfl (.inl ⟨by rfl, fun w hSw => ?_⟩) ?_ (by kernel_rfl) (fun _ _ _ h => h) (by assumption)
 rotate_left
 ·(try dsimp only at hSw); go_simp; try with_reducible rfl
 simp only [Act.put, rg]
 refine rgZ 2 ?_ rfl (.inl ⟨by rfl, fun w hSw => ?_⟩) ?_ (by kernel_rfl) (fun _ _ _ h => h) (by assumption)
 rotate_left
 ·(try dsimp only at hSw); go_simp; try with_reducible rfl
 simp only [Act.put, rg]
 refine rgZ 3 ?_ rfl (.inl ⟨by rfl, fun w hSw => ?_⟩) ?_ (by kernel_rfl) (fun _ _ _ h => h) (by assumption)
 rotate_left
 ·(try dsimp only at hSw); go_simp; try with_reducible rfl
 simp only [Act.put, rg]
 refine rgZ 4 ?_ rfl (.inl ⟨by rfl, fun w hSw => ?_⟩) ?_ (by kernel_rfl) (fun _ _ _ h => h) (by assumption)
 rotate_left
 ·(try dsimp only at hSw); go_simp; try with_reducible rfl
 simp only [Act.put, rg]
 refine rgZ 5 ?_ rfl (.inl ⟨by rfl, fun w hSw => ?_⟩) ?_ (by kernel_rfl) (fun _ _ _ h => h) (by assumption)
 rotate_left
 ·(try dsimp only at hSw); go_simp; try with_reducible rfl
 simp only [Act.put, rg]
 refine rgZ 6 ?_ rfl (.inl ⟨by rfl, fun w hSw => ?_⟩) ?_ (by kernel_rfl) (fun _ _ _ h => h) (by assumption)
 rotate_left
 ·(try dsimp only at hSw); go_simp; try with_reducible rfl
 simp only [Act.put, rg]
 refine rgZ 12 ?_ rfl (.inl ⟨by rfl, fun w hSw => ?_⟩) ?_ (by kernel_rfl) (fun _ _ _ h => h) (by assumption)
 rotate_left
 ·(try dsimp only at hSw); go_simp; try with_reducible rfl
 simp only [Act.put, rg]
 refine rgC 7 rfl (by kernel_rfl) (fun K hK => ?_)
 simp only [rg4, rg5, rg6]
 go_simp
 refine (hfd).mono ?_
 rintro e w3 ⟨rfl, hb3⟩
 have HP3 := qH (HP.out.next hb3)
 have hS3 : w3.cell? ⟨wb, 0, none⟩ = some (.slice (some ⟨b, off, none⟩) n c) ∧ w3.cell? ⟨b, off + k * 4 + 3, none⟩ = some (.slice ea E.length ec) := ⟨(hb3.cell (p := ⟨wb, 0, none⟩) HLT.out).trans c0, (hb3.cell (p := ⟨b, off + k * 4 + 3, none⟩) HBB.out).trans d3⟩
 have HB3 := qH ((below_drewN (Below.refl w.heap.size w) 1).trans (hb3.mono (Nat.le_refl _)))
 clear hfd hb3 c0 d3
 go_wp2_with fail
 refine hK.out _ _ hS3 (fun hHeld => ?_)
 clear hK K
 refine rgZ 8 ?_ rfl (.inl ⟨by rfl, fun w hSw => ?_⟩) ?_ (by kernel_rfl) (fun _ _ _ h => h) (by assumption)
 rotate_left
 ·(try dsimp only at hSw); go_simp; try with_reducible rfl
 simp only [Act.put, rg]
 refine rgZ 9 ?_ rfl (.inl ⟨by rfl, fun w hSw => ?_⟩) ?_ (by kernel_rfl) (fun _ _ _ h => h) (by assumption)
 rotate_left
 ·(try dsimp only at hSw); go_simp; try with_reducible rfl
 simp only [Act.put, rg]
 refine rgZ 10 ?_ rfl (.inl ⟨by rfl, fun w hSw => ?_⟩) ?_ (by kernel_rfl) (fun _ _ _ h => h) (by assumption)
 rotate_left
 ·(try dsimp only at hSw); go_simp; try with_reducible rfl
 simp only [Act.put, rg]
 refine rgZ 11 ?_ rfl (.inl ⟨by rfl, fun w hSw => ?_⟩) ?_ (by kernel_rfl) (fun _ _ _ h => h) (by assumption)
 rotate_left
 ·(try dsimp only at hSw); go_simp; try with_reducible rfl
 simp only [Act.put, rg]
 refine wpAnyH_done (by kernel_rfl) ?_ _
 clear hS3 hHeld k0 k1
 go_wp2_with fail
 go_loopw [5, 20] (fun v5 v20 wr => ∃ j : Nat, j ≤ E.length ∧ v20 = .int .i64 j ∧ OwnT wr w3.heap.size v5 j (nmL (E.take j)) ∧ Below w3.heap.size w3 wr) (fun _ v _ => E.length - (RowKit.intOf v).toNat)
 case atStart => exact ⟨0, by omega, rfl, ownT_nil _ _, Below.refl _ _⟩
 case round =>
  obtain ⟨j, hj, rfl, hO, hB⟩ := hrel
  have HB := qH hB
  have HO := qH hO
  by_cases hlt : j < E.length
  ·have k1 : (j : Int) < (E.length : Int) := by omega
   have k0 : (0 : Int) ≤ (j : Int) := by omega
   obtain ⟨b2, off2, rfl, hbl, hd1, hd2⟩ := (HP3.out.next hB).at hlt; have hcl := clone_any (eat E j).s (wr.alloc (.cells #[.string (eat E j).s, .int .i64 (eat E j).i] 77 (0, 0))) (HF.out.at hlt); obtain ⟨va, vc, rfl, _, _, _, _, hlo⟩ := hO.sts; clear hO hB hlo hbl; go_wp2_with fail; refine hcl.mono ?_; rintro e w2 ⟨rfl, hb2⟩; have hb1 : Below wr.heap.size wr (wr.alloc (.cells #[.string (eat E j).s, .int .i64 (eat E j).i] 77 (0, 0))) := (Below.refl _ _).alloc (Nat.le_refl _) _; have hbw : Below wr.heap.size wr w2 := hb1.trans (hb2.mono hb1.size); have hb3 : Below wr.heap.size wr (w2.alloc (.cells #[.string (eat E j).s] 9 (0, 0))) := hbw.alloc hbw.size _; have HO3 := qH (HO.out.next hb3); have HB3' := qH (HB.out.trans (hb3.mono HB.out.size)); have HM := qH (sts_one (w := w2) (g := w2.heap.size) (eat E j).s rfl); have hsz : w3.heap.size ≤ (w2.alloc (.cells #[.string (eat E j).s] 9 (0, 0))).heap.size := Nat.le_trans HB.out.size hb3.size; clear hb1 hb2 hbw hb3 hcl hd1 hd2
   go_wp2_with (at_builtin; go_must (refine wpList_apT rfl (.tmp 24) (.tmp 28) rfl w3.heap.size _ j (nmL (E.take j)) rfl HO3.out ⟨w2.heap.size, 0, none⟩ 1 1 [(eat E j).s.data.toList] rfl HM.out (by omega) (by simpa using hsz) w3 HB3'.out ?_); intro v4 w4 ho4 hb4)
   rw [nmL_snoc hlt] at ho4; have HO4 := qH ho4; have HB5 := qH hb4; clear ho4 hb4
   go_roundw
   case rel => exact ⟨j + 1, by omega, by go_num, HO4.out, HB5.out⟩
   case measure => simp [RowKit.intOf]; omega
  ·obtain rfl : j = E.length := by omega
   have k1 : ¬ (E.length : Int) < (E.length : Int) := by omega
   rw [List.take_of_length_le (Nat.le_refl _)] at hO; have HO2 := qH hO; clear hO hB; go_wp2_with fail; go_ret
   exact ⟨⟨_, rfl, World.ownsRow.mono HO2.out HB3.out.size⟩, HB3.out.trans (HB.out.mono HB3.out.size)⟩
def numR3 (k l z : Int) : Value := .agg #[.int .i64 0, .slice none 0 0, .slice none 0 0, .int .i64 k, .int .i64 l, .int .i64 z]
theorem stat_err (h : Wr w wb na n c f) (s : ByteArray) (x : Int)
  (hfa : ∀ w', Wr w' wb na n c f → Calls Tryz.prog 46 #[.pointer (some ⟨wb, 0, none⟩), .string s] w' fun e w'' => e = .panicked [pe x] ∧ Below w'.heap.size w' w'') :
  Calls Tryz.prog 71 #[.pointer (some ⟨wb, 0, none⟩), .string s] w fun e w' => e = .panicked [pe x] ∧ Below w.heap.size w w' := by
 have hb0 : Below w.heap.size w (w.alloc (.cells #[.int .i64 0, .slice none 0 0, .slice none 0 0, .int .i64 0, .int .i64 0, .int .i64 0] 37 (0, 0))) := (Below.refl _ _).alloc (Nat.le_refl _) _
 have c0 := (h.next hb0).c0
 have hfd := hfa _ ((h.next hb0).next (below_drewN (Below.refl _ _) 1))
 have HB0 := qH hb0
 have HW0 : Hid (Wr ((w.alloc (.cells #[.int .i64 0, .slice none 0 0, .slice none 0 0, .int .i64 0, .int .i64 0, .int .i64 0] 37 (0, 0))).drew) wb na n c f) := qH ((h.next hb0).next (below_drewN (Below.refl _ _) 1))
 have hfa' := hfa
 clear h hfa hb0
 go_enter Tryz.func71, Tryz.ntmps71
 go_wp2_with fail
 refine wp_region_held_drew (S := (fun w' => w'.cell? ⟨wb, 0, none⟩ = some (.slice na n c))) (by kernel_rfl) ?_ (fun hHeld => ?_)
 ·exact c0
 refine rgZ 0 ?_ rfl (.inl ⟨by rfl, fun w hSw => ?_⟩) ?_ (by kernel_rfl) (fun _ _ _ h => h) (by assumption)
 rotate_left
 ·(try dsimp only at hSw); go_simp; try with_reducible rfl
 simp only [Act.put, rg]
 refine rgZ 1 ?_ rfl (.inl ⟨by rfl, fun w hSw => ?_⟩) ?_ (by kernel_rfl) (fun _ _ _ h => h) (by assumption)
 rotate_left
 ·(try dsimp only at hSw); go_simp; try with_reducible rfl
 simp only [Act.put, rg]
 refine rgZ 2 ?_ rfl (.inl ⟨by rfl, fun w hSw => ?_⟩) ?_ (by kernel_rfl) (fun _ _ _ h => h) (by assumption)
 rotate_left
 ·(try dsimp only at hSw); go_simp; try with_reducible rfl
 simp only [Act.put, rg]
 refine rgZ 3 ?_ rfl (.inl ⟨by rfl, fun w hSw => ?_⟩) ?_ (by kernel_rfl) (fun _ _ _ h => h) (by assumption)
 rotate_left
 ·(try dsimp only at hSw); go_simp; try with_reducible rfl
 simp only [Act.put, rg]
 refine rgZ 4 ?_ rfl (.inl ⟨by rfl, fun w hSw => ?_⟩) ?_ (by kernel_rfl) (fun _ _ _ h => h) (by assumption)
 rotate_left
 ·(try dsimp only at hSw); go_simp; try with_reducible rfl
 simp only [Act.put, rg]
 refine rgZ 5 ?_ rfl (.inl ⟨by rfl, fun w hSw => ?_⟩) ?_ (by kernel_rfl) (fun _ _ _ h => h) (by assumption)
 rotate_left
 ·(try dsimp only at hSw); go_simp; try with_reducible rfl
 simp only [Act.put, rg]
 refine rgZ 6 ?_ rfl (.inl ⟨by rfl, fun w hSw => ?_⟩) ?_ (by kernel_rfl) (fun _ _ _ h => h) (by assumption)
 rotate_left
 ·(try dsimp only at hSw); go_simp; try with_reducible rfl
 simp only [Act.put, rg]
 refine wpAnyH_ready (rs := [7, 10]) (by kernel_rfl) (by simp) ?_
 refine AllReadyH.cons rfl (fun K hK => ?_) (AllReadyH.cons rfl (fun K hK => ?_) AllReadyH.nil)
 ·simp only [rg4, rg5, rg6]
  go_simp
  refine hfd.mono ?_
  rintro e w3 ⟨rfl, hb3⟩
  go_wp2_with fail
  exact ⟨rfl, rfl, (below_drewN HB0.out 1 |>.trans (hb3.mono HB0.out.size))⟩
 ·simp only [rg4, rg5, rg6]
  go_simp
  have hw2 := HW0.out.next ((Below.refl (((w.alloc (.cells #[.int .i64 0, .slice none 0 0, .slice none 0 0, .int .i64 0, .int .i64 0, .int .i64 0] 37 (0, 0))).drew).heap.size) _).alloc (Nat.le_refl _) (.cells #[.int .i64 0, .int .i64 0, .slice none 0 0, .slice none 0 0] 54 (0, 0)))
  have hfd2 := hfa' _ hw2
  have HB1 := qH ((below_drewN HB0.out 1).alloc (o := .cells #[.int .i64 0, .int .i64 0, .slice none 0 0, .slice none 0 0] 54 (0, 0)) HB0.out.size)
  refine hK.out _ _ hw2.c0 (fun _ => ?_)
  clear hK K hw2
  refine rgC 7 rfl (by kernel_rfl) (fun K hK => ?_)
  simp only [rg4, rg5, rg6]
  go_simp
  refine hfd2.mono ?_
  rintro e w3 ⟨rfl, hb3⟩
  go_wp2_with fail
  exact ⟨rfl, rfl, HB1.out.trans (hb3.mono HB1.out.size)⟩
end
section
variable {w : World} {wb n c : Nat} {na : Option Addr} {f : Nat → Nc}
theorem stat_ok (h : Wr w wb na n c f) (s : ByteArray) {k : Nat} (hk : k < n) (hn : n ≤ 1000000) (hl : (f k).e.length ≤ 100000) (hd : (f k).d.length ≤ 100000)
  (hfa : ∀ w', Wr w' wb na n c f → Calls Tryz.prog 46 #[.pointer (some ⟨wb, 0, none⟩), .string s] w' fun e w'' => e = .returned (.int .i64 (k : Int)) ∧ Below w'.heap.size w' w'') :
  Calls Tryz.prog 71 #[.pointer (some ⟨wb, 0, none⟩), .string s] w fun e w' => e = .returned (numR3 (f k).k (f k).l (((f k).d.length + (f k).e.length : Nat) : Int)) ∧ Below w.heap.size w w' := by
 have hb0 : Below w.heap.size w (w.alloc (.cells #[.int .i64 0, .slice none 0 0, .slice none 0 0, .int .i64 0, .int .i64 0, .int .i64 0] 37 (0, 0))) := (Below.refl _ _).alloc (Nat.le_refl _) _
 have h0 := h.next hb0
 have hle := (h.nds.ents k hk).ens.len
 have hld := (h.nds.data k hk).len
 have HLE := qH (And.intro hle hld)
 obtain ⟨b, off, rfl, hb, d0, d1, d2, d3⟩ := h0.nds.at hk
 have hlt := h0.lt
 have k0 : (0 : Int) ≤ (k : Int) := by omega
 have k1 : (k : Int) < (n : Int) := by omega
 obtain ⟨H, hH⟩ : ∃ H, H = w.heap.size := ⟨_, rfl⟩
 obtain ⟨w1, hw1⟩ : ∃ w1, w1 = w.alloc (.cells #[.int .i64 0, .slice none 0 0, .slice none 0 0, .int .i64 0, .int .i64 0, .int .i64 0] 37 (0, 0)) := ⟨_, rfl⟩
 have r0 : w1.heap[H]? = some (.cells #[.int .i64 0, .slice none 0 0, .slice none 0 0, .int .i64 0, .int .i64 0, .int .i64 0] 37 (0, 0)) := by rw [hw1, hH]; exact heap_alloc_new w _
 rw [← hw1] at h0 hb0 hlt hb d0 d1 d2 d3
 have HB0 : Hid (Below w.heap.size w w1.drew) := qH (below_drewN hb0 1)
 have HS0 : Hid (∀ w4, Below w1.drew.heap.size w1.drew w4 → (w4.cell? ⟨wb, 0, none⟩ = some (.slice (some ⟨b, off, none⟩) n c) ∧ w4.cell? ⟨b, off + k * 4, none⟩ = some (.int .i64 (f k).k) ∧ w4.cell? ⟨b, off + k * 4 + 1, none⟩ = some (.int .i64 (f k).l) ∧ w4.cell? ⟨b, off + k * 4 + 2, none⟩ = some (.slice (f k).da (f k).dn (f k).dc) ∧ w4.cell? ⟨b, off + k * 4 + 3, none⟩ = some (.slice (f k).ea (f k).en (f k).ec)) ∧ w4.heap[H]? = some (.cells #[.int .i64 0, .slice none 0 0, .slice none 0 0, .int .i64 0, .int .i64 0, .int .i64 0] 37 (0, 0)) ∧ Wr w4 wb (some ⟨b, off, none⟩) n c f) := qH (fun w4 h4 =>
  ⟨⟨(h4.cell (p := ⟨wb, 0, none⟩) hlt).trans h0.c0, (h4.cell (p := ⟨b, off + k * 4, none⟩) hb).trans d0, (h4.cell (p := ⟨b, off + k * 4 + 1, none⟩) hb).trans d1, (h4.cell (p := ⟨b, off + k * 4 + 2, none⟩) hb).trans d2, (h4.cell (p := ⟨b, off + k * 4 + 3, none⟩) hb).trans d3⟩,
   (h4.block H (lt_of_block r0)).trans r0, (h0.next (below_drewN (Below.refl _ _) 1)).next h4⟩)
 have HFA := qH hfa
 have HH := qH hH
 have hld0 : (((f k).dn : Nat) : Int) + ((f k).en : Int) = (((f k).d.length + (f k).e.length : Nat) : Int) := by omega
 have HLD := qH hld0
 have hsm : (f k).dn ≤ 100000 ∧ (f k).en ≤ 100000 := by omega
 have HSM := qH hsm
 clear h h0 hfa hb0 hlt hb d0 d1 d2 d3 r0 hld0 hle hld hsm hl hd
 go_enter Tryz.func71, Tryz.ntmps71
 go_wp2_with fail
 rw [← hw1, ← hH]
 clear hw1 hH
 refine wp_region_held_drew (S := (fun w' => w'.cell? ⟨wb, 0, none⟩ = some (.slice (some ⟨b, off, none⟩) n c) ∧ w'.cell? ⟨b, off + k * 4, none⟩ = some (.int .i64 (f k).k) ∧ w'.cell? ⟨b, off + k * 4 + 1, none⟩ = some (.int .i64 (f k).l) ∧ w'.cell? ⟨b, off + k * 4 + 2, none⟩ = some (.slice (f k).da (f k).dn (f k).dc) ∧ w'.cell? ⟨b, off + k * 4 + 3, none⟩ = some (.slice (f k).ea (f k).en (f k).ec))) (by kernel_rfl) ?_ (fun hHeld => ?_)
 ·exact (HS0.out _ (Below.refl _ _)).1
 refine rgZ 0 ?_ rfl (.inl ⟨by rfl, fun w hSw => ?_⟩) ?_ (by kernel_rfl) (fun _ _ _ h => h) (by assumption)
 rotate_left
 ·(try dsimp only at hSw); go_simp; try with_reducible rfl
 simp only [Act.put, rg]
 refine rgZ 1 ?_ rfl (.inl ⟨by rfl, fun w hSw => ?_⟩) ?_ (by kernel_rfl) (fun _ _ _ h => h) (by assumption)
 rotate_left
 ·(try dsimp only at hSw); go_simp; try with_reducible rfl
 simp only [Act.put, rg]
 refine rgZ 2 ?_ rfl (.inl ⟨by rfl, fun w hSw => ?_⟩) ?_ (by kernel_rfl) (fun _ _ _ h => h) (by assumption)
 rotate_left
 ·(try dsimp only at hSw); go_simp; try with_reducible rfl
 simp only [Act.put, rg]
 refine rgZ 3 ?_ rfl (.inl ⟨by rfl, fun w hSw => ?_⟩) ?_ (by kernel_rfl) (fun _ _ _ h => h) (by assumption)
 rotate_left
 ·(try dsimp only at hSw); go_simp; try with_reducible rfl
 simp only [Act.put, rg]
 refine rgZ 4 ?_ rfl (.inl ⟨by rfl, fun w hSw => ?_⟩) ?_ (by kernel_rfl) (fun _ _ _ h => h) (by assumption)
 rotate_left
 ·(try dsimp only at hSw); go_simp; try with_reducible rfl
 simp only [Act.put, rg]
 refine rgZ 5 ?_ rfl (.inl ⟨by rfl, fun w hSw => ?_⟩) ?_ (by kernel_rfl) (fun _ _ _ h => h) (by assumption)
 rotate_left
 ·(try dsimp only at hSw); go_simp; try with_reducible rfl
 simp only [Act.put, rg]
 refine rgZ 6 ?_ rfl (.inl ⟨by rfl, fun w hSw => ?_⟩) ?_ (by kernel_rfl) (fun _ _ _ h => h) (by assumption)
 rotate_left
 ·(try dsimp only at hSw); go_simp; try with_reducible rfl
 simp only [Act.put, rg]
 generalize hw2 : w1.drew = w2 at *
 clear hw2
 refine wpAnyH_ready (rs := [7, 10]) (by kernel_rfl) (by simp) ?_
 refine AllReadyH.cons rfl (fun K hK => ?_) (AllReadyH.cons rfl (fun K hK => ?_) AllReadyH.nil)
 ·simp only [rg4, rg5, rg6]
  go_simp
  refine (HFA.out w2 (HS0.out _ (Below.refl _ _)).2.2).mono ?_
  rintro e w3 ⟨rfl, hb3⟩
  have HB3 := qH hb3
  clear hb3
  go_wp2_with fail
  refine hK.out _ _ ((HS0.out _ HB3.out).1) (fun _ => ?_)
  clear hK K
  refine rgZ 8 ?_ rfl (.inl ⟨by rfl, fun w hSw => ?_⟩) ?_ (by kernel_rfl) (fun _ _ _ h => h) (by assumption)
  rotate_left
  ·(try dsimp only at hSw); go_simp; try with_reducible rfl
  simp only [Act.put, rg]
  refine rgZ 9 ?_ rfl (.inl ⟨by rfl, fun w hSw => ?_⟩) ?_ (by kernel_rfl) (fun _ _ _ h => h) (by assumption)
  rotate_left
  ·(try dsimp only at hSw); go_simp; try with_reducible rfl
  simp only [Act.put, rg]
  refine rgC 10 rfl (by kernel_rfl) (fun K hK => ?_)
  simp only [rg4, rg5, rg6]
  go_simp
  have HB4 : Hid (Below w2.heap.size w2 (w3.alloc (.cells #[.int .i64 0, .int .i64 0, .slice none 0 0, .slice none 0 0] 54 (0, 0)))) := qH (HB3.out.alloc HB3.out.size _)
  refine hK.out _ _ ((HS0.out _ HB4.out).1) (fun _ => ?_)
  clear hK K
  refine rgC 11 rfl (by kernel_rfl) (fun K hK => ?_)
  simp only [rg4, rg5, rg6]
  go_simp
  have hWB : Below w2.heap.size w2 (w3.alloc (.cells #[.int .i64 (f k).k, .int .i64 (f k).l, .slice (f k).da (f k).dn (f k).dc, .slice (f k).ea (f k).en (f k).ec] 54 (0, 0))) := HB3.out.alloc HB3.out.size _
  have e0 : (w3.alloc (.cells #[.int .i64 (f k).k, .int .i64 (f k).l, .slice (f k).da (f k).dn (f k).dc, .slice (f k).ea (f k).en (f k).ec] 54 (0, 0))).cell? ⟨w3.heap.size, 0, none⟩ = some (.int .i64 (f k).k) := by simp
  have e1 : (w3.alloc (.cells #[.int .i64 (f k).k, .int .i64 (f k).l, .slice (f k).da (f k).dn (f k).dc, .slice (f k).ea (f k).en (f k).ec] 54 (0, 0))).cell? ⟨w3.heap.size, 1, none⟩ = some (.int .i64 (f k).l) := by simp
  have e2 : (w3.alloc (.cells #[.int .i64 (f k).k, .int .i64 (f k).l, .slice (f k).da (f k).dn (f k).dc, .slice (f k).ea (f k).en (f k).ec] 54 (0, 0))).cell? ⟨w3.heap.size, 2, none⟩ = some (.slice (f k).da (f k).dn (f k).dc) := by simp
  have e3 : (w3.alloc (.cells #[.int .i64 (f k).k, .int .i64 (f k).l, .slice (f k).da (f k).dn (f k).dc, .slice (f k).ea (f k).en (f k).ec] 54 (0, 0))).cell? ⟨w3.heap.size, 3, none⟩ = some (.slice (f k).ea (f k).en (f k).ec) := by simp
  refine hK.out _ _ ((HS0.out _ hWB).1) (fun _ => ?_)
  clear hK K
  have hRW := (HS0.out _ hWB).2.1
  generalize hq : w3.heap.size = q at *
  generalize hW : w3.alloc (.cells #[.int .i64 (f k).k, .int .i64 (f k).l, .slice (f k).da (f k).dn (f k).dc, .slice (f k).ea (f k).en (f k).ec] 54 (0, 0)) = W at *
  clear hq hW
  have HRS : Hid (RsB W H #[.int .i64 0, .slice none 0 0, .slice none 0 0, .int .i64 0, .int .i64 0, .int .i64 0]) := qH hRW
  obtain ⟨x0, x1, x2, x3, x4, x5⟩ := HRS.out.cells
  have g0 := HRS.out.free 0
  have g1 := HRS.out.free 1
  have g2 := HRS.out.free 2
  have g3 := HRS.out.free 3
  have g4 := HRS.out.free 4
  have g5 := HRS.out.free 5
  have HWB := qH hWB
  have es : wrap64 (((f k).dn : Int) + ((f k).en : Int)) = (((f k).d.length + (f k).e.length : Nat) : Int) := by
   have h1 := HLE.out; have h2 := HSM.out; rw [wrap64_id _ (by omega)]
   omega
  clear hRW hWB
  refine wpAnyH_done (by kernel_rfl) ?_ _
  go_wp2_with fail
  have HG := qH (HRS.out.set (.int .i64 0) (.slice none 0 0) (.slice none 0 0) (.int .i64 (f k).k) (.int .i64 (f k).l) (.int .i64 (((f k).d.length + (f k).e.length : Nat) : Int)))
  have HE := qH (Below.set6 (HB0.out.trans (HWB.out.mono HB0.out.size)) (Nat.le_of_eq HH.out.symm) (.int .i64 0) (.slice none 0 0) (.slice none 0 0) (.int .i64 (f k).k) (.int .i64 (f k).l) (.int .i64 (((f k).d.length + (f k).e.length : Nat) : Int)))
  refine bodyPost_ret (res_cell rfl _ _ ⟨H, 0, none⟩ _ rfl HG.out.load) rfl ?_
  exact ⟨rfl, HE.out⟩
 ·simp only [rg4, rg5, rg6]
  go_simp
  have HB4 : Hid (Below w2.heap.size w2 (w2.alloc (.cells #[.int .i64 0, .int .i64 0, .slice none 0 0, .slice none 0 0] 54 (0, 0)))) := qH ((Below.refl _ _).alloc (Nat.le_refl _) _)
  have hfa2 := HFA.out _ (HS0.out _ HB4.out).2.2
  refine hK.out _ _ ((HS0.out _ HB4.out).1) (fun _ => ?_)
  clear hK K
  refine rgC 7 rfl (by kernel_rfl) (fun K hK => ?_)
  simp only [rg4, rg5, rg6]
  go_simp
  refine hfa2.mono ?_
  rintro e w3 ⟨rfl, hb3⟩
  have HB3 := qH (HB4.out.trans (hb3.mono HB4.out.size))
  have q0 : w2.heap.size < (w2.alloc (.cells #[.int .i64 0, .int .i64 0, .slice none 0 0, .slice none 0 0] 54 (0, 0))).heap.size := by simp
  have hz : w3.heap[w2.heap.size]? = some (.cells #[.int .i64 0, .int .i64 0, .slice none 0 0, .slice none 0 0] 54 (0, 0)) := (hb3.block _ q0).trans (heap_alloc_new w2 _)
  obtain ⟨q, hq⟩ : ∃ q, w2.heap.size = q := ⟨_, rfl⟩
  rw [hq] at hz
  rw [hq]
  have z0 : w3.cell? ⟨q, 0, none⟩ = some (.int .i64 0) := by simp [World.cell?, hz]
  have z1 : w3.cell? ⟨q, 1, none⟩ = some (.int .i64 0) := by simp [World.cell?, hz]
  have z2 : w3.cell? ⟨q, 2, none⟩ = some (.slice none 0 0) := by simp [World.cell?, hz]
  have z3 : w3.cell? ⟨q, 3, none⟩ = some (.slice none 0 0) := by simp [World.cell?, hz]
  have y0 : w3.frozen? ⟨q, 0, none⟩ = false := frozen_of_row w3 q 0 _ _ hz
  have y1 : w3.frozen? ⟨q, 1, none⟩ = false := frozen_of_row w3 q 1 _ _ hz
  have y2 : w3.frozen? ⟨q, 2, none⟩ = false := frozen_of_row w3 q 2 _ _ hz
  have y3 : w3.frozen? ⟨q, 3, none⟩ = false := frozen_of_row w3 q 3 _ _ hz
  have HZ := qH hz
  have HQ := qH hq
  clear hb3 hfa2 hz hq q0
  go_wp2_with fail
  refine hK.out _ _ ((HS0.out _ HB3.out).1) (fun _ => ?_)
  clear hK K
  refine rgZ 8 ?_ rfl (.inl ⟨by rfl, fun w hSw => ?_⟩) ?_ (by kernel_rfl) (fun _ _ _ h => h) (by assumption)
  rotate_left
  ·(try dsimp only at hSw); go_simp; try with_reducible rfl
  simp only [Act.put, rg]
  refine rgZ 9 ?_ rfl (.inl ⟨by rfl, fun w hSw => ?_⟩) ?_ (by kernel_rfl) (fun _ _ _ h => h) (by assumption)
  rotate_left
  ·(try dsimp only at hSw); go_simp; try with_reducible rfl
  simp only [Act.put, rg]
  refine rgC 11 rfl (by kernel_rfl) (fun K hK => ?_)
  simp only [rg4, rg5, rg6]
  go_simp
  have hz4 : ((((w3.setCell ⟨q, 0, none⟩ (.int .i64 (f k).k)).setCell ⟨q, 1, none⟩ (.int .i64 (f k).l)).setCell ⟨q, 2, none⟩ (.slice (f k).da (f k).dn (f k).dc)).setCell ⟨q, 3, none⟩ (.slice (f k).ea (f k).en (f k).ec)).heap[q]? = some (.cells #[.int .i64 (f k).k, .int .i64 (f k).l, .slice (f k).da (f k).dn (f k).dc, .slice (f k).ea (f k).en (f k).ec] 54 (0, 0)) := cells_set (cells_set (cells_set (cells_set HZ.out)))
  have hWB : Below w2.heap.size w2 ((((w3.setCell ⟨q, 0, none⟩ (.int .i64 (f k).k)).setCell ⟨q, 1, none⟩ (.int .i64 (f k).l)).setCell ⟨q, 2, none⟩ (.slice (f k).da (f k).dn (f k).dc)).setCell ⟨q, 3, none⟩ (.slice (f k).ea (f k).en (f k).ec)) := by
   exact (((HB3.out.setCell (p := ⟨q, 0, none⟩) (Nat.le_of_eq HQ.out) _).setCell (p := ⟨q, 1, none⟩) (Nat.le_of_eq HQ.out) _).setCell (p := ⟨q, 2, none⟩) (Nat.le_of_eq HQ.out) _).setCell (p := ⟨q, 3, none⟩) (Nat.le_of_eq HQ.out) _
  clear z0 z1 z2 z3 y0 y1 y2 y3
  generalize hW : (((w3.setCell ⟨q, 0, none⟩ (.int .i64 (f k).k)).setCell ⟨q, 1, none⟩ (.int .i64 (f k).l)).setCell ⟨q, 2, none⟩ (.slice (f k).da (f k).dn (f k).dc)).setCell ⟨q, 3, none⟩ (.slice (f k).ea (f k).en (f k).ec) = W at *
  clear hW
  have e0 : W.cell? ⟨q, 0, none⟩ = some (.int .i64 (f k).k) := by simp [World.cell?, hz4]
  have e1 : W.cell? ⟨q, 1, none⟩ = some (.int .i64 (f k).l) := by simp [World.cell?, hz4]
  have e2 : W.cell? ⟨q, 2, none⟩ = some (.slice (f k).da (f k).dn (f k).dc) := by simp [World.cell?, hz4]
  have e3 : W.cell? ⟨q, 3, none⟩ = some (.slice (f k).ea (f k).en (f k).ec) := by simp [World.cell?, hz4]
  clear hz4
  refine hK.out _ _ ((HS0.out _ hWB).1) (fun _ => ?_)
  clear hK K
  have hRW := (HS0.out _ hWB).2.1
  have HRS : Hid (RsB W H #[.int .i64 0, .slice none 0 0, .slice none 0 0, .int .i64 0, .int .i64 0, .int .i64 0]) := qH hRW
  obtain ⟨x0, x1, x2, x3, x4, x5⟩ := HRS.out.cells
  have g0 := HRS.out.free 0
  have g1 := HRS.out.free 1
  have g2 := HRS.out.free 2
  have g3 := HRS.out.free 3
  have g4 := HRS.out.free 4
  have g5 := HRS.out.free 5
  have HWB := qH hWB
  have es : wrap64 (((f k).dn : Int) + ((f k).en : Int)) = (((f k).d.length + (f k).e.length : Nat) : Int) := by
   have h1 := HLE.out; have h2 := HSM.out; rw [wrap64_id _ (by omega)]
   omega
  clear hRW hWB
  refine wpAnyH_done (by kernel_rfl) ?_ _
  go_wp2_with fail
  have HG := qH (HRS.out.set (.int .i64 0) (.slice none 0 0) (.slice none 0 0) (.int .i64 (f k).k) (.int .i64 (f k).l) (.int .i64 (((f k).d.length + (f k).e.length : Nat) : Int)))
  have HE := qH (Below.set6 (HB0.out.trans (HWB.out.mono HB0.out.size)) (Nat.le_of_eq HH.out.symm) (.int .i64 0) (.slice none 0 0) (.slice none 0 0) (.int .i64 (f k).k) (.int .i64 (f k).l) (.int .i64 (((f k).d.length + (f k).e.length : Nat) : Int)))
  refine bodyPost_ret (res_cell rfl _ _ ⟨H, 0, none⟩ _ rfl HG.out.load) rfl ?_
  exact ⟨rfl, HE.out⟩
theorem stat_any (h : Wr w wb na n c f) (ht : Rgt (ndL f n)) (s : ByteArray) (hs : s.size < 4294967281) :
  Calls Tryz.prog 71 #[.pointer (some ⟨wb, 0, none⟩), .string s] w fun e w' =>
   (match findO (ndL f n) (nms s) with | .error x => e = .panicked [pe x] | .ok k => e = .returned (numR3 (nat (ndL f n) k).k (nat (ndL f n) k).l (((nat (ndL f n) k).d.length + (nat (ndL f n) k).e.length : Nat) : Int))) ∧ Below w.heap.size w w' := by
 have hfa := fun (w' : World) (h' : Wr w' wb na n c f) => at_any h' ht s hs
 cases hfo : findO (ndL f n) (nms s) with
 | error x =>
  rw [hfo] at hfa
  exact stat_err h s x hfa
 | ok k =>
  rw [hfo] at hfa
  have hk := findO_lt ht hfo
  simp only [nat_ndL hk]
  have h1 := (ht.ents hk).1
  have h2 : (f k).d.length ≤ 46368 := by
   rcases ht.at hk with h3 | h3
   ·exact h3.1.2.2
   ·have : (f k).d = [] := h3.2.1
    rw [this]; simp
  exact stat_ok h s hk (by have := ht.le; omega) (by omega) (by omega) hfa
theorem list_any (h : Wr w wb na n c f) (ht : Rgt (ndL f n)) (s : ByteArray) (hs : s.size < 4294967281) :
  Calls Tryz.prog 72 #[.pointer (some ⟨wb, 0, none⟩), .string s] w fun e w' =>
   (match dirAtO (ndL f n) (nms s) with | .error x => e = .panicked [pe x] | .ok k => ∃ v, e = .returned v ∧ OwnT w' w.heap.size v (nat (ndL f n) k).e.length (nmL (nat (ndL f n) k).e)) ∧ Below w.heap.size w w' := by
 have hfa := fun (w' : World) (h' : Wr w' wb na n c f) => dirAt_any h' ht s hs
 cases hfo : dirAtO (ndL f n) (nms s) with
 | error x =>
  rw [hfo] at hfa
  exact list_err h s x hfa
 | ok k =>
  rw [hfo] at hfa
  have hk : k < n := by
   unfold dirAtO at hfo
   split at hfo
   ·cases hfo
   ·rename_i j hj
    split at hfo
    ·cases hfo
     exact findO_lt ht hj
    ·cases hfo
  simp only [nat_ndL hk]
  exact list_ok h s hk (by have := ht.le; omega) (Nat.le_trans (ht.ents hk).1 (by decide)) (ht.fit hk) hfa
end
theorem list_texts {L M : List (List UInt8)} : decide (L.map tx = M.map tx) = decide (L = M) := by
 by_cases h : L = M
 ·subst h; simp
 ·have : L.map tx ≠ M.map tx := fun e => h (by
   have := congrArg (List.map fun s : ByteArray => s.data.toList) e
   simpa [List.map_map, Function.comp_def, data_tx] using this)
  rw [decide_eq_false h, decide_eq_false this]
theorem tat_map (L : List (List UInt8)) {j : Nat} (h : j < L.length) : (L.map tx).getD j ByteArray.empty = tx (tat L j) := by
 simp [tat, List.getD, h]
theorem equal_any (w : World) (a b : Option Addr) (n c d : Nat) (L M : List (List UInt8)) (h1 : Sts w a n L) (h2 : Sts w b n M) (hn : n ≤ 1000000) :
  Calls Tryz.prog 55 #[.slice a n c, .slice b n d] w fun e w' => e = .returned (.bool (decide (L = M))) ∧ Below w.heap.size w w' := by
 have l1 := h1.len
 have l2 := h2.len
 rcases Nat.eq_zero_or_pos n with h0 | hp
 ·subst h0
  obtain rfl : L = [] := List.length_eq_zero_iff.1 l1
  obtain rfl : M = [] := List.length_eq_zero_iff.1 l2
  exact (Any.slices_Equal_string_empty lays193 a b c 0 d w (by omega)).mono fun e w' ⟨he, hw⟩ => ⟨he, hw ▸ Below.refl _ _⟩
 ·obtain ⟨b1, o1, rfl, _, c1⟩ := h1.at hp
  obtain ⟨b2, o2, rfl, _, c2⟩ := h2.at hp
  refine (Any.slices_Equal_string lays193 b1 o1 n c b2 o2 n d (L.map tx) (M.map tx) w (by simp [l1]) (by simp [l2]) (by omega) (by omega)
   (fun j hj => by rw [List.length_map] at hj; rw [tat_map L hj]; exact c1 j (by omega)) (fun j hj => by rw [List.length_map] at hj; rw [tat_map M hj]; exact c2 j (by omega))).mono ?_
  rintro e w' ⟨rfl, q, rfl⟩
  refine ⟨?_, below_drewN (Below.refl _ _) q⟩
  rw [List.take_of_length_le (by simp [l1]), List.take_of_length_le (by simp [l2]), list_texts]
theorem within_any (s t : ByteArray) (w : World) (hs : s.size < 4294967281) (ht : t.size < 4294967281) :
  Calls Tryz.prog 30 #[.string s, .string t] w fun e w' => e = .returned (.bool (wit s.data.toList t.data.toList)) ∧ Below w.heap.size w w' := by
 have hc1 := split_any s w hs
 obtain ⟨x, hx⟩ : ∃ x, s.data.toList = x := ⟨_, rfl⟩
 obtain ⟨y, hy⟩ : ∃ y, t.data.toList = y := ⟨_, rfl⟩
 rw [hx] at hc1
 rw [hx, hy]
 have hc2 : ∀ w1, Calls Tryz.prog 31 #[.string t] w1 (SplPost w1 (spl y)) := fun w1 => by rw [← hy]; exact split_any t w1 ht
 clear hx hy hs ht
 cases hA : spl x with
 | none =>
  have hw := qH (wit_left hA y)
  rw [hA] at hc1
  clear hA
  cases hB : spl y with
  | none =>
   rw [hB] at hc2; clear hB
   go_enter Tryz.func30, Tryz.ntmps30
   go_wp2_with fail; refine hc1.mono ?_; rintro e w1 ⟨h1, hb1⟩
   cases h1
   have h2 := hc2 w1; have HB1 := qH hb1; clear hc1 hc2 hb1; go_wp2_with fail; refine h2.mono ?_; rintro e w2 ⟨h3, hb2⟩
   cases h3
   have HB2 := qH (HB1.out.trans (hb2.mono HB1.out.size)); clear h2 hb2; go_wp2_with fail; go_ret
   exact ⟨by rw [hw.out]; rfl, HB2.out⟩
  | some M =>
   rw [hB] at hc2; clear hB
   go_enter Tryz.func30, Tryz.ntmps30
   go_wp2_with fail; refine hc1.mono ?_; rintro e w1 ⟨h1, hb1⟩
   cases h1
   have h2 := hc2 w1; have HB1 := qH hb1; clear hc1 hc2 hb1; go_wp2_with fail; refine h2.mono ?_; rintro e w2 ⟨⟨v, he, ho⟩, hb2⟩; subst he; obtain ⟨a2, c2, rfl, _⟩ := ho.sts; have HB2 := qH (HB1.out.trans (hb2.mono HB1.out.size)); clear h2 hb2 ho; go_wp2_with fail; go_ret
   exact ⟨by rw [hw.out]; rfl, HB2.out⟩
 | some L =>
  rw [hA] at hc1
  cases hB : spl y with
  | none =>
   have hw := qH (show wit x y = false by unfold wit; rw [hA, hB]); rw [hB] at hc2; clear hB hA
   go_enter Tryz.func30, Tryz.ntmps30
   go_wp2_with fail; refine hc1.mono ?_; rintro e w1 ⟨⟨v, he, ho⟩, hb1⟩; subst he; obtain ⟨a1, c1, rfl, _⟩ := ho.sts; have h2 := hc2 w1; have HB1 := qH hb1; clear hc1 hc2 hb1 ho; go_wp2_with fail; refine h2.mono ?_; rintro e w2 ⟨h3, hb2⟩
   cases h3
   have HB2 := qH (HB1.out.trans (hb2.mono HB1.out.size)); clear h2 hb2; go_wp2_with fail; go_ret
   exact ⟨by rw [hw.out]; rfl, HB2.out⟩
  | some M =>
   have hw := qH (wit_eq hA hB); have h8 := arP_len (spl_arP hA); have h9 := arP_len (spl_arP hB); rw [hB] at hc2; clear hB hA
   by_cases hlt : L.length < M.length
   ·have k3 : (L.length : Int) < (M.length : Int) := by omega
    go_enter Tryz.func30, Tryz.ntmps30
    go_wp2_with fail; refine hc1.mono ?_; rintro e w1 ⟨⟨v, he, ho⟩, hb1⟩; subst he; obtain ⟨a1, c1, rfl, _⟩ := ho.sts; have h2 := hc2 w1; have HB1 := qH hb1; clear hc1 hc2 hb1 ho; go_wp2_with fail; refine h2.mono ?_; rintro e w2 ⟨⟨v, he, ho⟩, hb2⟩; subst he; obtain ⟨a2, c2, rfl, _⟩ := ho.sts; have HB2 := qH (HB1.out.trans (hb2.mono HB1.out.size)); clear h2 hb2 ho; go_wp2_with fail; go_ret
    exact ⟨by rw [hw.out, decide_eq_false (by omega)]; rfl, HB2.out⟩
   ·have k3 : ¬ (L.length : Int) < (M.length : Int) := by omega
    go_enter Tryz.func30, Tryz.ntmps30
    go_wp2_with fail; refine hc1.mono ?_; rintro e w1 ⟨⟨v, he, ho⟩, hb1⟩; subst he; obtain ⟨a1, c1, rfl, hS1, hnc, hcm, hz, _⟩ := ho.sts; have h2 := hc2 w1; have HB1 := qH hb1; have HS1 := qH hS1; clear hc1 hc2 hb1 ho hS1; go_wp2_with fail; refine h2.mono ?_; rintro e w2 ⟨⟨v, he, ho⟩, hb2⟩; subst he; obtain ⟨a2, c2, rfl, hS2, _⟩ := ho.sts; have hq := equal_any w2 a1 a2 M.length c1 c2 (L.take M.length) M ((HS1.out.next hb2).front (by omega)) hS2 (by omega); have HB2 := qH (HB1.out.trans (hb2.mono HB1.out.size)); clear h2 hb2 ho hS2
    generalize hqv : decide (L.take M.length = M) = qv at hq
    have HW := qH (show wit x y = qv by
     rw [hw.out, decide_eq_true (show M.length ≤ L.length by omega), ← hqv, Bool.true_and]; rw [Bool.eq_iff_iff]
     simp)
    clear hqv hw
    rcases a1 with _ | p1
    ·obtain ⟨hz0, rfl⟩ := hz rfl
     obtain rfl : L = [] := List.length_eq_zero_iff.1 hz0; obtain rfl : M = [] := List.length_eq_zero_iff.1 (by simp at hlt; omega); simp only [List.length_nil] at hq; clear hz hz0 hnc hcm h8 h9 hlt k3 HS1; go_wp2_with fail; refine hq.mono ?_; rintro e w3 ⟨rfl, hb3⟩; have HB3 := qH (HB2.out.trans (hb3.mono HB2.out.size)); clear hb3 hq; go_wp2_with fail; go_ret
     exact ⟨by rw [HW.out]; rfl, HB3.out⟩
    ·clear hz
     go_wp2_with fail; refine hq.mono ?_; rintro e w3 ⟨rfl, hb3⟩; have HB3 := qH (HB2.out.trans (hb3.mono HB2.out.size)); clear hb3 hq; go_wp2_with fail; go_ret
     exact ⟨by rw [HW.out]; rfl, HB3.out⟩
def gwE (d dj he : Bool) : Ending := if d && !dj then .panicked [pe 22] else if !d && dj then .panicked [pe 23] else if he then .panicked [pe 25] else .returned (.tuple #[])
section
variable {w : World} {wb n c : Nat} {na : Option Addr} {f : Nat → Nc}
theorem giveWay_any (h : Wr w wb na n c f) {j k : Nat} (hj : j < n) (hk : k < n) (hn : n ≤ 1000000) :
  Calls Tryz.prog 110 #[.pointer (some ⟨wb, 0, none⟩), .int .i64 j, .int .i64 k] w fun e w' => e = gwE (isD (f k).nd) (isD (f j).nd) (decide (0 < (f j).e.length)) ∧ Below w.heap.size w w' := by
 have hdk := fun (w' : World) (h' : Wr w' wb na n c f) => isDir_any h' hk hn
 have hdj := fun (w' : World) (h' : Wr w' wb na n c f) => isDir_any h' hj hn
 have hhe := fun (w' : World) (h' : Wr w' wb na n c f) => hasEnt_any h' hj hn
 have h0 := hdk _ h
 have H := qH h
 clear h
 cases hd : isD (f k).nd with
 | true =>
  rw [hd] at hdk h0
  go_enter Tryz.func110, Tryz.ntmps110
  go_wp2_with fail
  refine h0.mono ?_
  rintro e w1 ⟨rfl, hb1⟩
  have H1 := qH (H.out.next hb1)
  have HB1 := qH hb1
  have h1 := hdj _ H1.out
  clear h0 hb1 hdj
  go_wp2_with fail
  refine h1.mono ?_
  rintro e w2 ⟨h2, hb2⟩
  have H2 := qH (H1.out.next hb2)
  have HB2 := qH (HB1.out.trans (hb2.mono HB1.out.size))
  clear h1 hb2
  cases hdd : isD (f j).nd with
  | false =>
   rw [hdd] at h2; subst h2; clear hdk hhe; go_wp2_with fail; refine (refuse_yes 22 _).mono ?_; rintro e w3 ⟨rfl, rfl⟩; go_wp2_with fail
   exact ⟨rfl, by rw [hdd]; rfl, HB2.out⟩
  | true =>
   rw [hdd] at h2; subst h2; have h3 := hdk _ H2.out; clear hdk; go_wp2_with fail; refine (refuse_no 22 _).mono ?_; rintro e w3 ⟨rfl, rfl⟩; go_wp2_with fail; refine h3.mono ?_; rintro e w4 ⟨rfl, hb4⟩; have H4 := qH (H2.out.next hb4); have HB4 := qH (HB2.out.trans (hb4.mono HB2.out.size)); have h5 := hhe _ H4.out; clear h3 hb4 hhe; go_wp2_with fail; refine (refuse_no 23 _).mono ?_; rintro e w5 ⟨rfl, rfl⟩; go_wp2_with fail; refine h5.mono ?_; rintro e w6 ⟨h6, hb6⟩; have HB6 := qH (HB4.out.trans (hb6.mono HB4.out.size)); clear h5 hb6
   cases hh : decide (0 < (f j).e.length) with
   | true =>
    rw [hh] at h6; subst h6; go_wp2_with fail; refine (refuse_yes 25 _).mono ?_; rintro e w7 ⟨rfl, rfl⟩; go_wp2_with fail
    exact ⟨rfl, by rw [hdd, hh]; rfl, HB6.out⟩
   | false =>
    rw [hh] at h6; subst h6; go_wp2_with fail; refine (refuse_no 25 _).mono ?_; rintro e w7 ⟨rfl, rfl⟩; go_wp2_with fail
    go_end0
    exact ⟨by rw [hdd, hh]; rfl, HB6.out⟩
 | false =>
  rw [hd] at hdk h0
  go_enter Tryz.func110, Tryz.ntmps110
  go_wp2_with fail
  refine h0.mono ?_
  rintro e w1 ⟨rfl, hb1⟩
  have H1 := qH (H.out.next hb1)
  have HB1 := qH hb1
  have h1 := hdk _ H1.out
  clear h0 hb1 hdk
  go_wp2_with fail
  refine (refuse_no 22 _).mono ?_
  rintro e w2 ⟨rfl, rfl⟩
  go_wp2_with fail
  refine h1.mono ?_
  rintro e w3 ⟨rfl, hb3⟩
  have H3 := qH (H1.out.next hb3)
  have HB3 := qH (HB1.out.trans (hb3.mono HB1.out.size))
  have h4 := hdj _ H3.out
  clear h1 hb3 hdj
  go_wp2_with fail
  refine h4.mono ?_
  rintro e w4 ⟨h5, hb4⟩
  have H4 := qH (H3.out.next hb4)
  have HB4 := qH (HB3.out.trans (hb4.mono HB3.out.size))
  clear h4 hb4
  cases hdd : isD (f j).nd with
  | true =>
   rw [hdd] at h5; subst h5; clear hhe; go_wp2_with fail; refine (refuse_yes 23 _).mono ?_; rintro e w5 ⟨rfl, rfl⟩; go_wp2_with fail
   exact ⟨rfl, by rw [hdd]; rfl, HB4.out⟩
  | false =>
   rw [hdd] at h5; subst h5; have h6 := hhe _ H4.out; clear hhe; go_wp2_with fail; refine (refuse_no 23 _).mono ?_; rintro e w5 ⟨rfl, rfl⟩; go_wp2_with fail; refine h6.mono ?_; rintro e w6 ⟨h7, hb6⟩; have HB6 := qH (HB4.out.trans (hb6.mono HB4.out.size)); clear h6 hb6
   cases hh : decide (0 < (f j).e.length) with
   | true =>
    rw [hh] at h7; subst h7; go_wp2_with fail; refine (refuse_yes 25 _).mono ?_; rintro e w7 ⟨rfl, rfl⟩; go_wp2_with fail
    exact ⟨rfl, by rw [hdd, hh]; rfl, HB6.out⟩
   | false =>
    rw [hh] at h7; subst h7; go_wp2_with fail; refine (refuse_no 25 _).mono ?_; rintro e w7 ⟨rfl, rfl⟩; go_wp2_with fail
    go_end0
    exact ⟨by rw [hdd, hh]; rfl, HB6.out⟩
end
end Go.Proofs.YtinholnidchblaaGreatDoor
