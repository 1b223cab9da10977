import Derived.Test.YtinholnidchblaaGreatDoorArgR
import Derived.Test.YtinholnidchblaaGreatDoorQbc
set_option linter.unusedVariables false
set_option linter.unusedSimpArgs false
set_option maxRecDepth 100000
set_option maxHeartbeats 16000000
namespace Go.Proofs.YtinholnidchblaaGreatDoor
open Go.RowKit
theorem we_sumW (u s : Nat) (hu : u ≤ 900000000000000) (hs : s ≤ 200000000000000) : wrap64 ((u : Int) + wrap64 (1 + (s : Int))) = ((u + (1 + s) : Nat) : Int) := by
 rw [IntWalk.wrap64_in (1 + (s : Int)) (by omega), IntWalk.wrap64_in _ (by omega)]
 omega
theorem we_leW {u s mo : Nat} (hmo : mo ≤ 1000000) (hu : u ≤ mo) (hs : s ≤ 200000000000000) : u + (1 + s) ≤ 900000000000000 := by omega
theorem we_few {f : Nat → Nc} {n v : Nat} (h : weT (ndL f n) = v) : n ≤ v ∧ ∀ i, i < n → (f i).d.length ≤ v ∧ (f i).e.length ≤ v ∧ ∀ y ∈ (f i).e, y.s.size ≤ v := by
 have key : ∀ (l : List Nd), l.length ≤ (l.map weN).sum ∧ ∀ x ∈ l, weN x ≤ (l.map weN).sum := by
  intro l
  induction l with
  | nil => exact ⟨Nat.le_refl _, fun x hx => by cases hx⟩
  | cons a l ih =>
   have ha : 1 ≤ weN a := by unfold weN; omega
   refine ⟨?_, fun x hx => ?_⟩
   ·simp only [List.length_cons, List.map_cons, List.sum_cons]
    have := ih.1
    omega
   ·simp only [List.map_cons, List.sum_cons]
    rcases List.mem_cons.1 hx with rfl | hx
    ·omega
    ·have := ih.2 x hx
     omega
 have keyE : ∀ (E : List En), E.length ≤ weE E ∧ ∀ y ∈ E, y.s.size ≤ weE E := by
  intro E
  unfold weE
  induction E with
  | nil => exact ⟨Nat.le_refl _, fun x hx => by cases hx⟩
  | cons a l ih =>
   refine ⟨?_, fun x hx => ?_⟩
   ·simp only [List.length_cons, List.map_cons, List.sum_cons]
    have := ih.1
    omega
   ·simp only [List.map_cons, List.sum_cons]
    rcases List.mem_cons.1 hx with rfl | hx
    ·omega
    ·have := ih.2 x hx
     omega
 have h1 := key (ndL f n)
 have e : ((ndL f n).map weN).sum = v := h
 rw [e, ndL_len] at h1
 refine ⟨h1.1, fun i hi => ?_⟩
 have h2 := h1.2 (f i).nd (List.mem_map.2 ⟨i, List.mem_range.2 hi, rfl⟩)
 have h3 := keyE (f i).e
 have h4 : weN (f i).nd = 1 + (f i).d.length + weE (f i).e := rfl
 rw [h4] at h2
 exact ⟨by omega, by have := h3.1; omega, fun y hy => by have := h3.2 y hy; omega⟩
section
variable {w : World} {n c : Nat} {a : Option Addr} {f : Nat → Nc}
theorem weighW_any (h : Nds w a n f) (mo : Nat) (hmo : mo ≤ 1000000) (hn : n ≤ 200000000000000) (hs : ∀ i, i < n → (f i).dn ≤ 200000000000000 ∧ (f i).en ≤ 200000000000000 ∧ ∀ y ∈ (f i).e, y.s.size ≤ 200000000000000) :
  Calls Tryz.prog 24 #[.agg #[.slice a n c], .int .i64 mo] w fun e w' => ∃ v : Nat, e = .returned (.int .i64 v) ∧ (v ≤ mo → weT (ndL f n) = v) ∧ Below w.heap.size w w' := by
 have H := qH (And.intro h hs)
 obtain ⟨wa, ha⟩ : ∃ wa, wa = w.alloc (.cells #[.slice a n c] 26 (0, 0)) := ⟨_, rfl⟩
 obtain ⟨q, hq⟩ : ∃ q, q = w.heap.size := ⟨_, rfl⟩
 have hba : Below w.heap.size w wa := by rw [ha]; exact (Below.refl _ _).alloc (Nat.le_refl _) _
 have c1 : wa.cell? ⟨q, 0, none⟩ = some (.slice a n c) := by rw [ha, hq]; simp
 have sa : wa.heap.size = q + 1 := by rw [ha, hq]; simp
 have HB := qH hba
 have C1 := qH c1
 have SA := qH sa
 clear h hs hba sa c1
 go_enter Tryz.func24, Tryz.ntmps24
 go_wp2_with fail
 rw [← ha, ← hq]
 clear ha hq
 go_loopw [5, 6] (fun v5 v6 wr => ∃ i v : Nat, i ≤ n ∧ v5 = .int .i64 v ∧ v6 = .int .i64 i ∧ wr = wa ∧ v ≤ 900000000000000 ∧ (v ≤ mo → v = weT (ndL f i))) (fun _ v6 _ => n - (RowKit.intOf v6).toNat)
 case atStart => exact ⟨0, 0, Nat.zero_le _, rfl, rfl, rfl, by omega, fun _ => rfl⟩
 case round =>
  obtain ⟨i, v, hi, rfl, rfl, rfl, hv, hI⟩ := hrel
  have HI := qH hI
  have c1 := C1.out
  clear hI
  by_cases hlt : i < n
  ·by_cases hvm : v ≤ mo
   ·have k0 : (0 : Int) ≤ (i : Int) := by omega
    have k1 : (i : Int) < (n : Int) := by omega
    have k2 : (v : Int) ≤ (mo : Int) := by omega
    obtain ⟨b, off, rfl, hbl, d0, d1, d2, d3⟩ := (H.out.1.next HB.out).at hlt; have hen := ((H.out.1.next HB.out).ents i hlt).ens; have hdl := ((H.out.1.next HB.out).data i hlt).bys.len; obtain ⟨s1, s2, s3⟩ := H.out.2 i hlt; have HEN := qH hen; have HS := qH (And.intro hdl (And.intro s3 (HI.out hvm))); clear hen hdl s3 d0 d1 hbl; go_wp2_with fail
    go_loopw [5, 7] (fun v5 v7 w9 => ∃ k u : Nat, k ≤ (f i).en ∧ v5 = .int .i64 u ∧ v7 = .int .i64 k ∧ w9 = wr ∧ u ≤ 900000000000000 ∧ (u ≤ mo → u = weT (ndL f i) + (1 + (f i).d.length) + weE ((f i).e.take k))) (fun _ v7 _ => (f i).en - (RowKit.intOf v7).toNat)
    case atStart =>
     refine ⟨0, v + (1 + (f i).dn), Nat.zero_le _, ?_, rfl, rfl, by omega, fun _ => ?_⟩
     ·go_num
     ·have h1 := HS.out.1
      have h2 := HS.out.2.2
      simp [weE]
      omega
    case round =>
     obtain ⟨k, u, hk, rfl, rfl, rfl, hu, hJ⟩ := hrel; have HJ := qH hJ; clear hJ
     by_cases hlk : k < (f i).en
     ·by_cases hum : u ≤ mo
      ·have j1 : (k : Int) < ((f i).en : Int) := by omega
       have j2 : (u : Int) ≤ (mo : Int) := by omega
       have j0 : (0 : Int) ≤ (k : Int) := by omega
       obtain ⟨b2, o2, he2, hl2, x1, x2⟩ := HEN.out.at (i := k) hlk; rw [he2] at d3; have hsz := HS.out.2.1 _ (eat_mem (L := (f i).e) (by rw [HEN.out.len]; exact hlk)); have HSZ := qH hsz; clear x2 hl2 hsz; go_wp2_with fail
       go_roundw
       have hsz := HSZ.out
       case rel =>
        refine ⟨k + 1, u + (1 + (eat (f i).e k).s.size), by clear hsz; omega, by rw [we_sumW _ _ hu hsz], rfl, trivial, we_leW hmo hum hsz, fun h => ?_⟩; have h9 := HJ.out hum; rw [weE_step (by rw [HEN.out.len]; exact hlk)]
        omega
       case measure => simp [RowKit.intOf]; omega
      ·have j1 : (k : Int) < ((f i).en : Int) := by omega
       have j2 : ¬ (u : Int) ≤ (mo : Int) := by omega
       go_wp2_with fail
       go_roundw
       case rel => exact ⟨i + 1, u, by omega, rfl, by go_num, trivial, hu, fun h => absurd h hum⟩
       case measure => simp [RowKit.intOf]; omega
     ·obtain rfl : k = (f i).en := by omega
      go_wp2_with fail
      go_roundw
      case rel =>
       refine ⟨i + 1, u, by omega, rfl, by go_num, trivial, hu, fun h => ?_⟩; have h9 := HJ.out h; rw [← HEN.out.len, List.take_length] at h9; rw [weT_step, h9]; unfold weN Nc.nd; simp only
       omega
      case measure => simp [RowKit.intOf]; omega
   ·have k2 : ¬ (v : Int) ≤ (mo : Int) := by omega
    have k1 : (i : Int) < (n : Int) := by omega
    go_wp2_with fail; go_ret
    exact ⟨v, rfl, fun h => absurd h hvm, HB.out⟩
  ·obtain rfl : i = n := by omega
   go_wp2_with fail; go_ret
   exact ⟨v, rfl, fun h => (HI.out h).symm, HB.out⟩
end
end Go.Proofs.YtinholnidchblaaGreatDoor
